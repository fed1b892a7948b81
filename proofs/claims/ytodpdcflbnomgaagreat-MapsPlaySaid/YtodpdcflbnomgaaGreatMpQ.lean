/- Package maps: entries, View. -/
import Derived.Test.YtodpdcflbnomgaaGreatPart14
namespace Go.Proofs.YtodpdcflbnomgaaGreat
open Go.RowKit Go.Maps
set_option linter.unusedVariables false
set_option linter.unusedSimpArgs false
set_option maxRecDepth 100000

theorem run_buildQ (r : Ew) (W : World) : (Instr.buildSlice 58 1 #[(0, r.val)]).run Tryz.prog W = .ok (.slice (some ⟨W.heap.size, 0, none⟩) 1 1) (W.alloc (ewO r)) := by kernel_rfl
abbrev zeroEw : Obj := .cells #[.string ⟨#[]⟩, .int .i64 0, .int .i64 0, .float .f64 0, .string ⟨#[]⟩, .slice none 0 0] 61
theorem newEw (W : World) (r : Ew) : Touch (fun _ => False) W ((W.alloc zeroEw).setCells W.heap.size 0 [.string r.ky, .int .i64 r.vk, .int .i64 r.vn, .float .f64 r.vf, .string r.vs, .slice r.ks.a r.ks.n r.ks.c]) ∧ ((W.alloc zeroEw).setCells W.heap.size 0 [.string r.ky, .int .i64 r.vk, .int .i64 r.vn, .float .f64 r.vf, .string r.vs, .slice r.ks.a r.ks.n r.ks.c]).heap[W.heap.size]? = some (ewO r) := by
  refine ⟨((Touch.refl _ _).alloc _).stores (Nat.le_refl _) 0 _, ?_⟩
  rw [cells_storedS (heap_alloc_new W zeroEw)]
  kernel_rfl
theorem rangeAt_ew {W : World} {m : Nat} {r : Ew} (h : W.heap[m]? = some (ewO r)) : W.rangeAt m 0 [.string r.ky, .int .i64 r.vk, .int .i64 r.vn, .float .f64 r.vf, .string r.vs, .slice r.ks.a r.ks.n r.ks.c] := by
  intro j v hv
  rw [Nat.zero_add, cell_of_block h]
  match j, hv with
  | 0, hv => cases hv; rfl
  | 1, hv => cases hv; rfl
  | 2, hv => cases hv; rfl
  | 3, hv => cases hv; rfl
  | 4, hv => cases hv; rfl
  | 5, hv => cases hv; rfl
theorem newOpM (W : World) (o : O) : Touch (fun _ => False) W ((W.alloc zeroOp).setCells W.heap.size 0 o.vals.toList) ∧ OpAt W.heap.size o ((W.alloc zeroOp).setCells W.heap.size 0 o.vals.toList) := by
  refine ⟨((Touch.refl _ _).alloc _).stores (Nat.le_refl _) 0 _, ?_⟩
  exact OpAt.store0 (o := zeroO) (heap_alloc_new W zeroOp)
theorem OpAt.idAt {W : World} {B : Nat} {o : O} (h : OpAt B o W) : W.rangeAt B 0 [.int .u64 o.c, .int .u64 o.k] := by
  intro j v hv
  match j, hv with
  | 0, hv => cases hv; exact h.q0
  | 1, hv => cases hv; exact h.q1
section
variable {g mt mk : Nat} {hv : Value} {os : List (Key × Inn)} {s : MS}
set_option maxHeartbeats 16000000 in
theorem entriesC_any {w : World} (h : MapsC w g mt mk hv os s) : ∀ (n : Nat) (c k : Int), U64 c → U64 k → Deep s n c k → ∀ W0, Touch (fun _ => False) w W0 →
    Calls Tryz.prog 37 #[.pointer (some ⟨g, 0, none⟩), idV c k] W0 fun e w' => ∃ v, e = .returned v ∧ EtAt w' (fun q => W0.heap.size ≤ q) n v (viewE s n c k) ∧ Touch (fun _ => False) W0 w' := by
  intro n
  induction n with
  | zero => intro c k hc hk hd; exact hd.elim
  | succ n ih =>
    intro c k hc hk hd W0 t0
    obtain ⟨m, hso⟩ := h.sorted hc hk hd.1
    have HSo : Hid (∀ W, Touch (fun _ => False) w W → _) := hso
    have HD : Hid ((keysS s c k).length ≤ 1000000 ∧ ∀ ky ∈ keysS s c k, ky.length ≤ 281474976710656 ∧ ((getS s c k (strK ky)).2 = true → isMapB (getS s c k (strK ky)).1 = true → U64 (getS s c k (strK ky)).1.c ∧ U64 (getS s c k (strK ky)).1.k ∧ Deep s n (getS s c k (strK ky)).1.c (getS s c k (strK ky)).1.k)) := hd
    have HIH : Hid (∀ (c k : Int), U64 c → U64 k → Deep s n c k → ∀ W0, Touch (fun _ => False) w W0 → Calls Tryz.prog 37 #[.pointer (some ⟨g, 0, none⟩), idV c k] W0 fun e w' => ∃ v, e = .returned v ∧ EtAt w' (fun q => W0.heap.size ≤ q) n v (viewE s n c k) ∧ Touch (fun _ => False) W0 w') := ih
    obtain ⟨B, hB⟩ : ∃ B, B = W0.heap.size := ⟨_, rfl⟩
    obtain ⟨E, hE⟩ : ∃ E, Hid (E = W0.alloc (idO c k)) := ⟨_, Eq.refl _⟩
    have HTE : Hid (Touch (fun _ => False) w E) := by rw [hE.out]; exact t0.alloc _
    have HT0E : Hid (Touch (fun _ => False) W0 E) := by rw [hE.out]; exact (Touch.refl _ _).alloc _
    have HB1 : Hid (E.heap[B]? = some (idO c k)) := by rw [hE.out, hB]; exact heap_alloc_new _ _
    have HBl : Hid (B < E.heap.size) := lt_of_heap HB1.out
    have HS : Hid (∀ V, Touch (fun _ => False) E V → (V.cell? ⟨g, 1, none⟩ = some (.map (some mk)) ∧ (V.cell? ⟨B, 0, none⟩ = some (.int .u64 c) ∧ V.cell? ⟨B, 1, none⟩ = some (.int .u64 k)) ∧ (Instr.lookup 64 (.map (some mk)) (idV c k) false).run Tryz.prog V = .ok (.map m) V)) := fun V t1 => by
      have hm := h.quiet (HTE.out.trans t1)
      have e1 := (t1.block B (lt_of_heap HB1.out) id).trans HB1.out
      exact ⟨hm.c1, ⟨by rw [cell_of_block e1]; rfl, by rw [cell_of_block e1]; rfl⟩, (hso V (HTE.out.trans t1)).1⟩
    have HBx : Hid (∀ V, Touch (fun _ => False) E V → V.cell? ⟨B, 0, none⟩ = some (.int .u64 c) ∧ V.cell? ⟨B, 1, none⟩ = some (.int .u64 k)) := fun V t1 => (HS.out V t1).2.1
    have HGe : Hid (∀ ky ∈ keysS s c k, ∀ W, Touch (fun _ => False) w W → Calls Tryz.prog 9 #[.pointer (some ⟨g, 0, none⟩), idV c k, .string (strK ky)] W fun e w' => e = .returned (.tuple #[(getS s c k (strK ky)).1.val, .bool (getS s c k (strK ky)).2]) ∧ Touch (fun _ => False) W w') := fun ky hky W t =>
      getC_any (h.quiet t) hc hk (strK ky) (by have h1 := (hd.2 ky hky).1; have h2 : (strK ky).size = ky.length := by simp [strK, ByteArray.size]
                                               unfold maxLen; omega)
    clear ih hso hd hc hk t0
    have HVS : Hid (viewE s (n + 1) c k = (keysS s c k).filterMap fun ky => entE (viewE s n) (getS s c k (strK ky)) ky) := rfl
    go_enter Tryz.func37, Tryz.ntmps37
    go_upto_region 2 with fail
    rw [← hE.out, ← hB]
    clear hE hB
    refine wp_region_held_drew (S := fun V => (V.cell? ⟨g, 1, none⟩ = some (.map (some mk)) ∧ (V.cell? ⟨B, 0, none⟩ = some (.int .u64 c) ∧ V.cell? ⟨B, 1, none⟩ = some (.int .u64 k)) ∧ (Instr.lookup 64 (.map (some mk)) (idV c k) false).run Tryz.prog V = .ok (.map m) V)) (by kernel_rfl) (HS.out _ (Touch.refl _ E).drew) (fun hHeld => ?_)
    have HTV : Hid (Touch (fun _ => False) w E.drew ∧ Touch (fun _ => False) E E.drew) := ⟨HTE.out.drew, (Touch.refl _ _).drew⟩
    obtain ⟨U9, hU9⟩ : ∃ U9, Hid (U9 = E.drew) := ⟨_, Eq.refl _⟩
    rw [← hU9.out] at hHeld HTV ⊢
    clear hU9
    refine wpAnyH_take (i := 0) (oi := { dst := some 11, op := Go.Op.move (Go.Operand.tmp 0), type := 25, pos := "maps.go:93", after := #[], guard := none }) (v := .pointer (some ⟨g, 0, none⟩)) rfl (by kernel_rfl) (by kernel_rfl) (by kernel_rfl) (fun _ _ _ h => h) (Or.inl ⟨by kernel_rfl, ?_⟩) hHeld ?_
    · intro V1 hV1; obtain ⟨c1, ⟨b0, b1⟩, L1⟩ := hV1; go_simp
    simp only [Act.put, List.setIfInBounds_toArray, List.set_cons_succ, List.set_cons_zero]
    refine wpAnyH_take (i := 1) (oi := { dst := some 12, op := Go.Op.nilCheck (Go.Operand.tmp 11), type := 0, pos := "maps.go:93", after := #[{ on := 0, ground := Go.Ground.data }], guard := none }) (v := .pointer (some ⟨g, 0, none⟩)) rfl (by kernel_rfl) (by kernel_rfl) (by kernel_rfl) (fun _ _ _ h => h) (Or.inl ⟨by kernel_rfl, ?_⟩) hHeld ?_
    · intro V1 hV1; obtain ⟨c1, ⟨b0, b1⟩, L1⟩ := hV1; go_simp
    simp only [Act.put, List.setIfInBounds_toArray, List.set_cons_succ, List.set_cons_zero]
    refine wpAnyH_take (i := 2) (oi := { dst := some 13, op := Go.Op.fieldAddr 66 (Go.Operand.tmp 12) 1, type := 0, pos := "maps.go:93", after := #[{ on := 1, ground := Go.Ground.data }], guard := none }) (v := .pointer (some ⟨g, 1, none⟩)) rfl (by kernel_rfl) (by kernel_rfl) (by kernel_rfl) (fun _ _ _ h => h) (Or.inl ⟨by kernel_rfl, ?_⟩) hHeld ?_
    · intro V1 hV1; obtain ⟨c1, ⟨b0, b1⟩, L1⟩ := hV1; go_simp
    simp only [Act.put, List.setIfInBounds_toArray, List.set_cons_succ, List.set_cons_zero]
    refine wpAnyH_take (i := 3) (oi := { dst := some 14, op := Go.Op.load 64 (Go.Operand.tmp 13), type := 64, pos := "maps.go:93", after := #[{ on := 2, ground := Go.Ground.data }], guard := none }) (v := .map (some mk)) rfl (by kernel_rfl) (by kernel_rfl) (by kernel_rfl) (fun _ _ _ h => h) (Or.inl ⟨by kernel_rfl, ?_⟩) hHeld ?_
    · intro V1 hV1; obtain ⟨c1, ⟨b0, b1⟩, L1⟩ := hV1; go_simp
    simp only [Act.put, List.setIfInBounds_toArray, List.set_cons_succ, List.set_cons_zero]
    refine wpAnyH_take (i := 4) (oi := { dst := some 15, op := Go.Op.load 34 (Go.Operand.tmp 3), type := 34, pos := "maps.go:93", after := #[], guard := none }) (v := idV c k) rfl (by kernel_rfl) (by kernel_rfl) (by kernel_rfl) (fun _ _ _ h => h) (Or.inl ⟨by kernel_rfl, ?_⟩) hHeld ?_
    · intro V1 hV1; obtain ⟨c1, ⟨b0, b1⟩, L1⟩ := hV1; go_simp
    simp only [Act.put, List.setIfInBounds_toArray, List.set_cons_succ, List.set_cons_zero]
    refine wpAnyH_take (i := 5) (oi := { dst := some 16, op := Go.Op.lookup 64 (Go.Operand.tmp 14) (Go.Operand.tmp 15) false, type := 63, pos := "maps.go:93", after := #[{ on := 3, ground := Go.Ground.data }, { on := 4, ground := Go.Ground.data }], guard := none }) (v := .map m) rfl (by kernel_rfl) (by kernel_rfl) (by kernel_rfl) (fun _ _ _ h => h) (Or.inl ⟨by kernel_rfl, ?_⟩) hHeld ?_
    · intro V1 hV1; obtain ⟨c1, ⟨b0, b1⟩, L1⟩ := hV1; go_simp
    simp only [Act.put, List.setIfInBounds_toArray, List.set_cons_succ, List.set_cons_zero]
    refine wpAnyH_take (i := 9) (oi := { dst := some 20, op := Go.Op.move (Go.Operand.const (Go.Value.int Go.IntKind.i64 0)), type := 3, pos := "maps.go:93", after := #[], guard := none }) (v := .int .i64 0) rfl (by kernel_rfl) (by kernel_rfl) (by kernel_rfl) (fun _ _ _ h => h) (Or.inl ⟨by kernel_rfl, ?_⟩) hHeld ?_
    · intro V1 hV1; clear hV1; go_simp
    simp only [Act.put, List.setIfInBounds_toArray, List.set_cons_succ, List.set_cons_zero]
    refine wpAnyH_ready (rs := [6]) (by kernel_rfl) (by simp) ?_
    refine AllReadyH.cons (o := { dst := some 17, op := Go.Op.call { callee := Go.Callee.value (Go.Operand.func 61), args := #[Go.Operand.tmp 16], argTypes := #[63] }, type := 110, pos := "maps.go:93", after := #[{ on := 5, ground := Go.Ground.data }], guard := none }) rfl (fun K hK => ?_) AllReadyH.nil
    rw [if_pos (by kernel_rfl)]
    go_simp
    refine (callsIn_wide.1 (Tryz.maps_Keys_61 m U9)).mono ?_
    rintro e w2 ⟨rfl, rfl⟩
    refine hK.out _ _ (HS.out _ (HTV.out.2.alloc _)) (fun hHeld => ?_)
    clear hK K
    refine wpAnyH_ready (rs := [7]) (by kernel_rfl) (by simp) ?_
    refine AllReadyH.cons (o := { dst := some 18, op := Go.Op.call { callee := Go.Callee.value (Go.Operand.func 60), args := #[Go.Operand.tmp 17], argTypes := #[110] }, type := 42, pos := "maps.go:93", after := #[{ on := 6, ground := Go.Ground.data }, { on := 6, ground := Go.Ground.chain }], guard := none }) rfl (fun K hK => ?_) AllReadyH.nil
    rw [if_pos (by kernel_rfl)]
    go_simp
    refine ((HSo.out U9 HTV.out.1).2).mono ?_
    rintro e W2 ⟨v, rfl, hst, t2⟩
    have HT2 : Hid (Touch (fun _ => False) w W2 ∧ Touch (fun _ => False) E W2 ∧ StrsAt W2 v (keysS s c k)) := ⟨HTV.out.1.trans t2, HTV.out.2.trans t2, hst⟩
    obtain ⟨so, scap, rfl, -⟩ := hst
    refine hK.out _ _ (HS.out _ HT2.out.2.1) (fun hHeld => ?_)
    clear hK K t2
    refine wpAnyH_take (i := 8) (oi := { dst := some 19, op := Go.Op.call { callee := Go.Callee.builtin Go.Builtin.len, args := #[Go.Operand.tmp 18], argTypes := #[42] }, type := 3, pos := "maps.go:93", after := #[{ on := 7, ground := Go.Ground.data }], guard := none }) (v := .int .i64 ((keysS s c k).length : Int)) rfl (by kernel_rfl) (by kernel_rfl) (by kernel_rfl) (fun _ _ _ h => h) (Or.inl ⟨by kernel_rfl, ?_⟩) hHeld ?_
    · intro V1 hV1; clear hV1; go_simp
    simp only [Act.put, List.setIfInBounds_toArray, List.set_cons_succ, List.set_cons_zero]
    refine wpAnyH_done (by kernel_rfl) ?_ _
    try simp only [List.getElem_toArray, List.getElem_cons_succ, List.getElem_cons_zero, List.setIfInBounds_toArray, List.set_cons_succ, List.set_cons_zero]
    clear hHeld
    have HTs : Hid (Touch (fun _ => False) w W2 ∧ Touch (fun _ => False) E W2) := ⟨HT2.out.1, HT2.out.2.1⟩
    have HSt : Hid (∀ i (h : i < (keysS s c k).length), ∃ b o, so = some ⟨b, o, none⟩ ∧ ∀ W, Touch (fun _ => False) W2 W → W.cell? ⟨b, o + i, none⟩ = some (.string (strK (keysS s c k)[i]))) := fun i hi => by
      obtain ⟨ao, cap, e, hx⟩ := HT2.out.2.2
      simp only [Value.slice.injEq] at e
      obtain ⟨rfl, -, -⟩ := e
      exact hx i hi
    have hKl : (keysS s c k).length ≤ 1000000 := HD.out.1
    clear HT2 HTV HSo HS
    generalize hks : keysS s c k = ks at *
    go_wp2_with fail
    go_loopg [5, 20] ks.length (fun gk s5 s20 wr => ∃ (i : Nat) (raws : List Ew), i + gk = ks.length ∧ s20 = .int .i64 (i : Int) ∧ Hid (NewQ W2 wr s5 raws ∧ raws.length ≤ i ∧ EtRow (EtAt wr (fun q => W0.heap.size ≤ q ∧ s5.ownBlock ≠ some q) n) raws ((ks.take i).filterMap fun ky => entE (viewE s n) (getS s c k (strK ky)) ky)))
    case atStart => exact ⟨0, [], by omega, rfl, NewQ.nil W2 W2 (Touch.refl _ _), Nat.le_refl _, EtRow.nil _⟩
    case round =>
      obtain ⟨i, raws, hig, rfl, HI⟩ := hrel
      by_cases hil : i < ks.length
      · obtain ⟨sb, sof, rfl, hst⟩ := HSt.out i hil
        have HStr : Hid (∀ W, Touch (fun _ => False) W2 W → W.cell? ⟨sb, sof + i, none⟩ = some (.string (strK ks[i]))) := hst
        have hi1 : (0 : Int) ≤ (i : Int) := by omega
        have hi2 : (i : Int) < (ks.length : Int) := by omega
        have hmem : ks[i] ∈ ks := List.getElem_mem hil
        have hD2 := HD.out.2 ks[i] hmem
        have HGet : Hid (∀ W, Touch (fun _ => False) w W → _) := HGe.out ks[i] hmem
        obtain ⟨en, hen0⟩ : ∃ en, en = entE (viewE s n) (getS s c k (strK ks[i])) ks[i] := ⟨_, rfl⟩
        have hen : Hid (en = entE (viewE s n) (getS s c k (strK ks[i])) ks[i]) := hen0
        clear hen0
        have HFM : Hid ((ks.take (i + 1)).filterMap (fun ky => entE (viewE s n) (getS s c k (strK ky)) ky) = (ks.take i).filterMap (fun ky => entE (viewE s n) (getS s c k (strK ky)) ky) ++ en.toList) := by rw [Hid, hen.out]; exact filterMap_take _ ks i hil
        have HEn : Hid (en = if (getS s c k (strK ks[i])).2 = true then some (.mk (strK ks[i]) (getS s c k (strK ks[i])).1.v (if isMapB (getS s c k (strK ks[i])).1 = true then viewE s n (getS s c k (strK ks[i])).1.c (getS s c k (strK ks[i])).1.k else [])) else none) := hen
        have HM : Hid ((getS s c k (strK ks[i])).2 = true → isMapB (getS s c k (strK ks[i])).1 = true → U64 (getS s c k (strK ks[i])).1.c ∧ U64 (getS s c k (strK ks[i])).1.k ∧ Deep s n (getS s c k (strK ks[i])).1.c (getS s c k (strK ks[i])).1.k) := hD2.2
        have HIl : Hid (i < ks.length) := hil
        have HGet2 : Hid (∀ W, Touch (fun _ => False) w W → Calls Tryz.prog 9 #[.pointer (some ⟨g, 0, none⟩), idV c k, .string (strK ks[i])] W fun e w' => e = .returned (.tuple #[(getS s c k (strK ks[i])).1.val, .bool (getS s c k (strK ks[i])).2]) ∧ Touch (fun _ => False) W w') := HGet.out
        clear hen HGet
        generalize hgs : getS s c k (strK ks[i]) = GH at HEn HM HGet2
        generalize hky : strK ks[i] = ky at HStr HGet2 HEn
        obtain ⟨G, H⟩ := GH
        simp only at HGet2 HM HEn
        clear hgs
        have HT : Hid (Touch (fun _ => False) w wr ∧ Touch (fun _ => False) E wr ∧ Touch (fun _ => False) W2 wr) := ⟨HTs.out.1.trans HI.out.1.touch, HTs.out.2.trans HI.out.1.touch, HI.out.1.touch⟩
        have S0 := HStr.out wr HT.out.2.2
        obtain ⟨b0, b1⟩ := HBx.out wr HT.out.2.1
        clear hst hmem hD2 hky HSt HGe HD HVS hil
        obtain ⟨av, acap, hav, -⟩ := HI.out.1.shape
        subst hav
        go_upto_region 5 with fail
        refine wp_region_lit ?_
        iterate 1 (refine wpList_plain rfl fun K hK => ?_; go_simp; refine hK _ _ ?_; clear hK K)
        refine wpList_load_mid rfl 34 (.tmp 3) rfl B 0 rfl [.int .u64 c, .int .u64 k] _ (by intro j v hv; match j, hv with
                                                                                                            | 0, hv => cases hv; exact b0
                                                                                                            | 1, hv => cases hv; exact b1) Tryz.underlying34 rfl (by kernel_rfl) ?_
        simp only [Act.put, List.setIfInBounds_toArray, List.set_cons_succ, List.set_cons_zero]
        iterate 1 (refine wpList_plain rfl fun K hK => ?_; go_simp; refine hK _ _ ?_; clear hK K)
        refine wpList_plain rfl fun K hK => ?_
        go_simp
        refine (HGet2.out wr HT.out.1).mono ?_
        rintro e w3 ⟨rfl, t3⟩
        refine hK _ _ ?_
        clear hK K
        have HT3 : Hid (Touch (fun _ => False) w w3 ∧ Touch (fun _ => False) E w3 ∧ Touch (fun _ => False) W2 w3 ∧ Touch (fun _ => False) wr w3) := ⟨HT.out.1.trans t3, HT.out.2.1.trans t3, HT.out.2.2.trans t3, t3⟩
        clear t3 HT HGet2 S0 b0 b1
        iterate 4 (refine wpList_plain rfl fun K hK => ?_; go_simp; refine hK _ _ ?_; clear hK K)
        obtain ⟨X, hX⟩ : ∃ X, Hid (X = w3.heap.size) := ⟨_, Eq.refl _⟩
        refine wpList_store_mid rfl 41 (.tmp 8) (.tmp 29) rfl w3.heap.size 0 G.vals rfl rfl (OpAt.there (o := zeroO) (heap_alloc_new w3 zeroOp) 0 22 (by decide)) (by kernel_rfl) (by kernel_rfl) ?_
        simp only [Act.put]
        obtain ⟨W4, hW4⟩ : ∃ W, Hid (W = (w3.alloc zeroOp).setCells w3.heap.size 0 G.vals.toList) := ⟨_, Eq.refl _⟩
        have hn4 := newOpM w3 G
        rw [← hW4.out] at hn4 ⊢
        rw [← hX.out] at hn4 ⊢
        have HT4 : Hid (Touch (fun _ => False) w W4 ∧ Touch (fun _ => False) E W4 ∧ Touch (fun _ => False) W2 W4 ∧ Touch (fun _ => False) wr W4 ∧ OpAt X G W4) := ⟨HT3.out.1.trans hn4.1, HT3.out.2.1.trans hn4.1, HT3.out.2.2.1.trans hn4.1, HT3.out.2.2.2.trans hn4.1, hn4.2⟩
        clear hn4 hW4 HT3 hX
        iterate 1 (refine wpList_plain rfl fun K hK => ?_; go_simp; refine hK _ _ ?_; clear hK K)
        generalize Value.agg G.vals = gv
        cases H with
        | false =>
          have HQ : Hid (NewQ W2 W4 (.slice av raws.length acap) raws ∧ raws.length ≤ i + 1 ∧ EtRow (EtAt W4 (fun q => W0.heap.size ≤ q ∧ (Value.slice av raws.length acap).ownBlock ≠ some q) n) raws ((ks.take (i + 1)).filterMap fun ky => entE (viewE s n) (getS s c k (strK ky)) ky)) := by
            refine ⟨HI.out.1.on HT4.out.2.2.2.1, by have := HI.out.2.1; omega, ?_⟩
            rw [HFM.out]
            have : en = none := by rw [HEn.out]; rfl
            rw [this]
            simpa using HI.out.2.2.mono fun v l q => EtAt.touch HT4.out.2.2.2.1 (fun _ _ => id) q
          clear HT4 HI HFM HEn
          go_wp2_with fail
          go_roundg (ks.length - (i + 1))
          case measure => have := HIl.out; omega
          case rel => exact ⟨i + 1, raws, by have := HIl.out; omega, by go_num, HQ.out⟩
        | true =>
          go_upto_region 7 with fail
          refine wp_region_lit ?_
          iterate 2 (refine wpList_plain rfl fun K hK => ?_; go_simp; refine hK _ _ ?_; clear hK K)
          refine wpList_load_mid rfl 37 (.tmp 34) rfl X 9 rfl [.int .i64 G.vk, .int .i64 G.vn, .float .f64 G.vf, .string G.vs] _ (OpAt.valAt HT4.out.2.2.2.2) Tryz.underlying37 rfl (by kernel_rfl) ?_
          simp only [Act.put, List.setIfInBounds_toArray, List.set_cons_succ, List.set_cons_zero]
          iterate 2 (refine wpList_plain rfl fun K hK => ?_; go_simp; refine hK _ _ ?_; clear hK K)
          obtain ⟨rw0, hrw⟩ : ∃ r : Ew, Hid (r = ⟨ky, G.vk, G.vn, G.vf, G.vs, ⟨none, 0, 0⟩⟩) := ⟨_, Eq.refl _⟩
          refine wpList_store_mid rfl 61 (.tmp 10) (.tmp 36) rfl W4.heap.size 0 #[.string ky, .int .i64 G.vk, .int .i64 G.vn, .float .f64 G.vf, .string G.vs, .slice none 0 0] rfl rfl (there_ofS (heap_alloc_new W4 zeroEw) 0 6 (by decide)) (by kernel_rfl) (by kernel_rfl) ?_
          simp only [Act.put]
          obtain ⟨Y, hY⟩ : ∃ Y, Hid (Y = W4.heap.size) := ⟨_, Eq.refl _⟩
          obtain ⟨W5, hW5⟩ : ∃ W, Hid (W = (W4.alloc zeroEw).setCells W4.heap.size 0 [.string ky, .int .i64 G.vk, .int .i64 G.vn, .float .f64 G.vf, .string G.vs, .slice none 0 0]) := ⟨_, Eq.refl _⟩
          have hn5 := newEw W4 ⟨ky, G.vk, G.vn, G.vf, G.vs, ⟨none, 0, 0⟩⟩
          simp only at hn5
          rw [← hW5.out] at hn5 ⊢
          rw [← hY.out] at hn5 ⊢
          have HT5 : Hid (Touch (fun _ => False) w W5 ∧ Touch (fun _ => False) E W5 ∧ Touch (fun _ => False) W2 W5 ∧ Touch (fun _ => False) wr W5 ∧ OpAt X G W5 ∧ W5.heap[Y]? = some (ewO ⟨ky, G.vk, G.vn, G.vf, G.vs, ⟨none, 0, 0⟩⟩) ∧ W2.heap.size ≤ Y) := ⟨HT4.out.1.trans hn5.1, HT4.out.2.1.trans hn5.1, HT4.out.2.2.1.trans hn5.1, HT4.out.2.2.2.1.trans hn5.1, HT4.out.2.2.2.2.keep hn5.1, hn5.2, by rw [hY.out]; exact HT4.out.2.2.1.size⟩
          have HYw : Hid (wr.heap.size ≤ Y) := by rw [hY.out]; exact HT4.out.2.2.2.1.size
          clear hn5 hW5 hY HT4
          go_upto_region 8 with fail
          refine wp_region_lit ?_
          refine wpList_load_mid rfl 41 (.tmp 8) rfl X 0 rfl G.vals.toList _ (rangeAt_of HT5.out.2.2.2.2.1) Tryz.underlying41 rfl (by kernel_rfl) ?_
          simp only [Act.put, List.setIfInBounds_toArray, List.set_cons_succ, List.set_cons_zero]
          refine wpList_plain rfl fun K hK => ?_
          go_simp
          refine (isMap_any G W5).mono ?_
          rintro e w6 ⟨rfl, t6⟩
          refine hK _ _ ?_
          clear hK K
          have HT6 : Hid (Touch (fun _ => False) w w6 ∧ Touch (fun _ => False) E w6 ∧ Touch (fun _ => False) W2 w6 ∧ Touch (fun _ => False) wr w6 ∧ OpAt X G w6 ∧ w6.heap[Y]? = some (ewO ⟨ky, G.vk, G.vn, G.vf, G.vs, ⟨none, 0, 0⟩⟩) ∧ W2.heap.size ≤ Y) := ⟨HT5.out.1.trans t6, HT5.out.2.1.trans t6, HT5.out.2.2.1.trans t6, HT5.out.2.2.2.1.trans t6, HT5.out.2.2.2.2.1.keep t6, (t6.block Y (lt_of_heap HT5.out.2.2.2.2.2.1) id).trans HT5.out.2.2.2.2.2.1, HT5.out.2.2.2.2.2.2⟩
          clear t6 HT5
          have HMb : Hid (isMapB G = isMapB G) := rfl
          generalize hmb : isMapB G = mb at *
          generalize Value.agg G.vals = gv2
          cases mb with
          | false =>
            obtain ⟨kd, hkd⟩ : ∃ kd : List Et, kd = [] := ⟨_, rfl⟩
            obtain ⟨r, hr⟩ : ∃ r : Ew, Hid (w6.heap[Y]? = some (ewO r) ∧ r.ky = ky ∧ (⟨r.vk, r.vn, r.vf, r.vs⟩ : V) = G.v ∧ EtAt w6 (fun q => wr.heap.size ≤ q) n r.ks.val kd ∧ Touch (fun _ => False) wr w6 ∧ Touch (fun _ => False) W2 w6) := ⟨⟨ky, G.vk, G.vn, G.vf, G.vs, ⟨none, 0, 0⟩⟩, HT6.out.2.2.2.2.2.1, rfl, rfl, by rw [hkd]; exact EtAt.nil _ _ _, HT6.out.2.2.2.1, HT6.out.2.2.1⟩
            have HK : Hid (en.toList = [Et.mk ky G.v kd]) := by rw [Hid, HEn.out, hkd]; rfl
            clear HT6 HMb hkd
            obtain ⟨w7, hw7⟩ : ∃ x, x = w6 := ⟨_, rfl⟩
            rw [← hw7] at hr ⊢
            clear hw7
            have HHx : Hid (w7.heap[Y]? = some (ewO r)) := hr.out.1
            have HNw : Hid (NewQ W2 w7 (.slice av raws.length acap) raws) := HI.out.1.on hr.out.2.2.2.2.1
            have hlen : raws.length ≤ 1073741824 := by have := HI.out.2.1; have := HIl.out; omega
            have hown0 : (w7.alloc (ewO r)).ownsRow 0 61 6 (.slice av raws.length acap) raws.length (cellsQ raws) := (HNw.out.on ((Touch.refl _ w7).alloc (ewO r))).owns
            obtain ⟨v', w8, hrun, hown8, hg8, hb8⟩ := run_appendQ (w7.alloc (ewO r)) (.slice av raws.length acap) raws hown0 (some ⟨w7.heap.size, 0, none⟩) 1 1 [r] rfl (fun h => by cases h) (LiesQ.new w7 r) (by simp; omega)
            have hsz7 : (w7.alloc (ewO r)).heap.size = w7.heap.size + 1 := by simp
            have hvlt : ∀ q, (Value.slice av raws.length acap).ownBlock = some q → W2.heap.size ≤ q := HNw.out.fresh
            have htg : Touch (fun q => (Value.slice av raws.length acap).ownBlock = some q) w7 w8 := ((Touch.refl (fun q => (Value.slice av raws.length acap).ownBlock = some q) w7).alloc (ewO r)).grown hg8 fun q e _ => e
            have hW27 : W2.heap.size ≤ w7.heap.size := hr.out.2.2.2.2.2.size
            have hn8 : NewQ W2 w8 v' (raws ++ [r]) := ⟨hown8, hr.out.2.2.2.2.2.then htg fun q hq e => absurd (hvlt q e) (by omega), fun q hq => by
              rcases hb8 with e | e
              · exact hvlt q (e ▸ hq)
              · rw [hq] at e; have := Option.some.inj e; omega⟩
            have hwr : wr.heap.size ≤ w7.heap.size := hr.out.2.2.2.2.1.size
            have hvwr : ∀ q, (Value.slice av raws.length acap).ownBlock = some q → q < wr.heap.size := fun q e => by
              rcases HI.out.1.owns.2 with ⟨e2, _⟩ | ⟨g2, cap2, cur2, e2, _, hg2, _⟩
              · rw [e2] at e; simp [Value.ownBlock] at e
              · rw [e2] at e; simp only [Value.ownBlock, Option.some.injEq] at e; subst e; exact lt_of_heap hg2
            have hW0r : W0.heap.size ≤ wr.heap.size := (HT0E.out.trans (HTs.out.2.trans HI.out.1.touch)).size
            have HRn : Hid (EtRow (EtAt w8 (fun q => W0.heap.size ≤ q ∧ v'.ownBlock ≠ some q) n) (raws ++ [r]) ((ks.take (i + 1)).filterMap fun ky => entE (viewE s n) (getS s c k (strK ky)) ky)) := by
              rw [Hid, HFM.out, HK.out]
              have hmv : ∀ v l, EtAt w7 (fun q => W0.heap.size ≤ q ∧ (Value.slice av raws.length acap).ownBlock ≠ some q) n v l → EtAt w8 (fun q => W0.heap.size ≤ q ∧ v'.ownBlock ≠ some q) n v l := fun v l q => by
                have q1 : EtAt w7 (fun q => (W0.heap.size ≤ q ∧ v'.ownBlock ≠ some q) ∧ (Value.slice av raws.length acap).ownBlock ≠ some q) n v l := q.mono fun j hj hS => ⟨⟨hS.1, fun e => by
                  rcases hb8 with e2 | e2
                  · exact hS.2 (by rw [← e2]; exact e)
                  · rw [e] at e2; have := Option.some.inj e2; omega⟩, hS.2⟩
                exact (q1.touch htg fun j hS e => hS.2 e).mono fun j _ hS => hS.1
              have hk9 : EtAt w7 (fun q => W0.heap.size ≤ q ∧ (Value.slice av raws.length acap).ownBlock ≠ some q) n r.ks.val kd := hr.out.2.2.2.1.mono fun j _ hS => ⟨Nat.le_trans hW0r hS, fun e => absurd (hvwr j e) (by omega)⟩
              exact EtRow.snoc (r := r) (e := Et.mk ky G.v kd) (HI.out.2.2.mono fun v l q => hmv v l (EtAt.touch hr.out.2.2.2.2.1 (fun _ _ => id) q)) hr.out.2.1 hr.out.2.2.1 (hmv _ _ hk9)
            have HI2 : Hid (raws.length ≤ i) := HI.out.2.1
            obtain ⟨ry, rk0, rn, rf, rs, ⟨ra, rnn, rc⟩⟩ := r
            have hbs := run_buildQ ⟨ry, rk0, rn, rf, rs, ⟨ra, rnn, rc⟩⟩ w7
            go_upto_region 10 with fail
            refine wp_region_lit ?_
            iterate 1 (refine wpList_plain rfl fun K hK => ?_; go_simp; refine hK _ _ ?_; clear hK K)
            refine wpList_load_mid rfl 61 (.tmp 10) rfl Y 0 rfl [.string ry, .int .i64 rk0, .int .i64 rn, .float .f64 rf, .string rs, .slice ra rnn rc] _ (rangeAt_ew HHx.out) Tryz.underlying61 rfl (by kernel_rfl) ?_
            simp only [Act.put, List.setIfInBounds_toArray, List.set_cons_succ, List.set_cons_zero]
            iterate 1 (refine wpList_plain rfl fun K hK => ?_; go_simp; refine hK _ _ ?_; clear hK K)
            refine wpList_append_runQ rfl (.tmp 44) (.tmp 46) rfl _ _ _ rfl rfl hrun ?_
            simp only [Act.put, List.setIfInBounds_toArray, List.set_cons_succ, List.set_cons_zero]
            obtain ⟨bv, bcap, hbv, -⟩ := hn8.shape
            have HQ : Hid (NewQ W2 w8 v' (raws ++ [⟨ry, rk0, rn, rf, rs, ⟨ra, rnn, rc⟩⟩]) ∧ (raws ++ [(⟨ry, rk0, rn, rf, rs, ⟨ra, rnn, rc⟩⟩ : Ew)]).length ≤ i + 1 ∧ EtRow (EtAt w8 (fun q => W0.heap.size ≤ q ∧ v'.ownBlock ≠ some q) n) (raws ++ [⟨ry, rk0, rn, rf, rs, ⟨ra, rnn, rc⟩⟩]) ((ks.take (i + 1)).filterMap fun ky => entE (viewE s n) (getS s c k (strK ky)) ky)) := by
              exact ⟨hn8, by have := HI2.out; simp; omega, HRn.out⟩
            have hbv2 : v' = .slice bv (raws.length + 1) bcap := by rw [hbv]; simp
            clear hbv
            subst hbv2
            clear hrun hn8 hg8 htg hvlt hvwr hown8 hown0 hb8 HRn HNw hr HK HHx hbs HI HFM HEn
            go_wp2_with fail
            go_roundg (ks.length - (i + 1))
            case measure => have := HIl.out; omega
            case rel => exact ⟨i + 1, _, by have := HIl.out; omega, by go_num, HQ.out⟩
          | true =>
            have hM2 := HM.out rfl rfl
            have h0 := HT6.out.2.2.2.2.1.idAt
            go_upto_region 9 with fail
            refine wp_region_lit ?_
            iterate 2 (refine wpList_plain rfl fun K hK => ?_; go_simp; refine hK _ _ ?_; clear hK K)
            refine wpList_load_mid rfl 34 (.tmp 40) rfl X 0 rfl [.int .u64 G.c, .int .u64 G.k] _ h0 Tryz.underlying34 rfl (by kernel_rfl) ?_
            simp only [Act.put, List.setIfInBounds_toArray, List.set_cons_succ, List.set_cons_zero]
            clear h0
            refine wpList_plain rfl fun K hK => ?_
            go_simp
            refine (HIH.out G.c G.k hM2.1 hM2.2.1 hM2.2.2 w6 HT6.out.1).mono ?_
            rintro e wk ⟨vk, rfl, het, tk⟩
            refine hK _ _ ?_
            clear hK K hM2
            iterate 1 (refine wpList_plain rfl fun K hK => ?_; go_simp; refine hK _ _ ?_; clear hK K)
            obtain ⟨ka, kc, hvk⟩ := het.shape
            have hYk : wk.heap[Y]? = some (ewO ⟨ky, G.vk, G.vn, G.vf, G.vs, ⟨none, 0, 0⟩⟩) := (tk.block Y (lt_of_heap HT6.out.2.2.2.2.2.1) id).trans HT6.out.2.2.2.2.2.1
            have c5 : wk.cell? ⟨Y, 5, none⟩ = some (.slice none 0 0) := by rw [cell_of_block hYk]; rfl
            have f5 : wk.frozen? ⟨Y, 5, none⟩ = false := free_of_block hYk
            obtain ⟨kd, hkd⟩ : ∃ kd, Hid (kd = viewE s n G.c G.k) := ⟨_, Eq.refl _⟩
            rw [← hkd.out] at het hvk
            have HKs : Hid (EtAt wk (fun q => w6.heap.size ≤ q) n (.slice ka kd.length kc) kd ∧ Y < w6.heap.size ∧ wr.heap.size ≤ w6.heap.size ∧ Touch (fun _ => False) wr wk ∧ Touch (fun _ => False) W2 wk ∧ wk.heap[Y]? = some (ewO ⟨ky, G.vk, G.vn, G.vf, G.vs, ⟨none, 0, 0⟩⟩)) := ⟨by rw [← hvk]; exact het, lt_of_heap HT6.out.2.2.2.2.2.1, HT6.out.2.2.2.1.size, HT6.out.2.2.2.1.trans tk, HT6.out.2.2.1.trans tk, hYk⟩
            have HK : Hid (en.toList = [Et.mk ky G.v kd]) := by rw [Hid, HEn.out, hkd.out]; rfl
            clear het tk hYk HMb hkd
            subst hvk
            refine wpList_plain rfl fun K hK => ?_
            go_simp
            refine hK _ _ ?_
            clear hK K c5 f5
            obtain ⟨w7, hw7⟩ : ∃ x, Hid (x = wk.setCell ⟨Y, 5, none⟩ (.slice ka kd.length kc)) := ⟨_, Eq.refl _⟩
            obtain ⟨r, hr⟩ : ∃ r : Ew, Hid (w7.heap[Y]? = some (ewO r) ∧ r.ky = ky ∧ (⟨r.vk, r.vn, r.vf, r.vs⟩ : V) = G.v ∧ EtAt w7 (fun q => wr.heap.size ≤ q) n r.ks.val kd ∧ Touch (fun _ => False) wr w7 ∧ Touch (fun _ => False) W2 w7) := by
              have e7 : w7.heap[Y]? = some (ewO ⟨ky, G.vk, G.vn, G.vf, G.vs, ⟨ka, kd.length, kc⟩⟩) := by
                rw [hw7.out, heap_setCell_same _ _ _ _ HKs.out.2.2.2.2.2]; rfl
              have t7 : Touch (fun k => k = Y) wk w7 := by rw [hw7.out]; exact (Touch.refl (fun k => k = Y) wk).setCell _ _ fun _ => rfl
              refine ⟨_, e7, rfl, rfl, ?_, ?_, ?_⟩
              · exact (HKs.out.1.touch t7 (fun k h1 h2 => by have := HKs.out.2.1; omega)).mono fun k _ h => Nat.le_trans HKs.out.2.2.1 h
              · exact HKs.out.2.2.2.1.then t7 fun k hk e => by have := HYw.out; omega
              · exact HKs.out.2.2.2.2.1.then t7 fun k hk e => by have := HT6.out.2.2.2.2.2.2; omega
            rw [← hw7.out]
            clear hw7 HKs HT6
            have HHx : Hid (w7.heap[Y]? = some (ewO r)) := hr.out.1
            have HNw : Hid (NewQ W2 w7 (.slice av raws.length acap) raws) := HI.out.1.on hr.out.2.2.2.2.1
            have hlen : raws.length ≤ 1073741824 := by have := HI.out.2.1; have := HIl.out; omega
            have hown0 : (w7.alloc (ewO r)).ownsRow 0 61 6 (.slice av raws.length acap) raws.length (cellsQ raws) := (HNw.out.on ((Touch.refl _ w7).alloc (ewO r))).owns
            obtain ⟨v', w8, hrun, hown8, hg8, hb8⟩ := run_appendQ (w7.alloc (ewO r)) (.slice av raws.length acap) raws hown0 (some ⟨w7.heap.size, 0, none⟩) 1 1 [r] rfl (fun h => by cases h) (LiesQ.new w7 r) (by simp; omega)
            have hsz7 : (w7.alloc (ewO r)).heap.size = w7.heap.size + 1 := by simp
            have hvlt : ∀ q, (Value.slice av raws.length acap).ownBlock = some q → W2.heap.size ≤ q := HNw.out.fresh
            have htg : Touch (fun q => (Value.slice av raws.length acap).ownBlock = some q) w7 w8 := ((Touch.refl (fun q => (Value.slice av raws.length acap).ownBlock = some q) w7).alloc (ewO r)).grown hg8 fun q e _ => e
            have hW27 : W2.heap.size ≤ w7.heap.size := hr.out.2.2.2.2.2.size
            have hn8 : NewQ W2 w8 v' (raws ++ [r]) := ⟨hown8, hr.out.2.2.2.2.2.then htg fun q hq e => absurd (hvlt q e) (by omega), fun q hq => by
              rcases hb8 with e | e
              · exact hvlt q (e ▸ hq)
              · rw [hq] at e; have := Option.some.inj e; omega⟩
            have hwr : wr.heap.size ≤ w7.heap.size := hr.out.2.2.2.2.1.size
            have hvwr : ∀ q, (Value.slice av raws.length acap).ownBlock = some q → q < wr.heap.size := fun q e => by
              rcases HI.out.1.owns.2 with ⟨e2, _⟩ | ⟨g2, cap2, cur2, e2, _, hg2, _⟩
              · rw [e2] at e; simp [Value.ownBlock] at e
              · rw [e2] at e; simp only [Value.ownBlock, Option.some.injEq] at e; subst e; exact lt_of_heap hg2
            have hW0r : W0.heap.size ≤ wr.heap.size := (HT0E.out.trans (HTs.out.2.trans HI.out.1.touch)).size
            have HRn : Hid (EtRow (EtAt w8 (fun q => W0.heap.size ≤ q ∧ v'.ownBlock ≠ some q) n) (raws ++ [r]) ((ks.take (i + 1)).filterMap fun ky => entE (viewE s n) (getS s c k (strK ky)) ky)) := by
              rw [Hid, HFM.out, HK.out]
              have hmv : ∀ v l, EtAt w7 (fun q => W0.heap.size ≤ q ∧ (Value.slice av raws.length acap).ownBlock ≠ some q) n v l → EtAt w8 (fun q => W0.heap.size ≤ q ∧ v'.ownBlock ≠ some q) n v l := fun v l q => by
                have q1 : EtAt w7 (fun q => (W0.heap.size ≤ q ∧ v'.ownBlock ≠ some q) ∧ (Value.slice av raws.length acap).ownBlock ≠ some q) n v l := q.mono fun j hj hS => ⟨⟨hS.1, fun e => by
                  rcases hb8 with e2 | e2
                  · exact hS.2 (by rw [← e2]; exact e)
                  · rw [e] at e2; have := Option.some.inj e2; omega⟩, hS.2⟩
                exact (q1.touch htg fun j hS e => hS.2 e).mono fun j _ hS => hS.1
              have hk9 : EtAt w7 (fun q => W0.heap.size ≤ q ∧ (Value.slice av raws.length acap).ownBlock ≠ some q) n r.ks.val kd := hr.out.2.2.2.1.mono fun j _ hS => ⟨Nat.le_trans hW0r hS, fun e => absurd (hvwr j e) (by omega)⟩
              exact EtRow.snoc (r := r) (e := Et.mk ky G.v kd) (HI.out.2.2.mono fun v l q => hmv v l (EtAt.touch hr.out.2.2.2.2.1 (fun _ _ => id) q)) hr.out.2.1 hr.out.2.2.1 (hmv _ _ hk9)
            have HI2 : Hid (raws.length ≤ i) := HI.out.2.1
            obtain ⟨ry, rk0, rn, rf, rs, ⟨ra, rnn, rc⟩⟩ := r
            have hbs := run_buildQ ⟨ry, rk0, rn, rf, rs, ⟨ra, rnn, rc⟩⟩ w7
            go_upto_region 10 with fail
            refine wp_region_lit ?_
            iterate 1 (refine wpList_plain rfl fun K hK => ?_; go_simp; refine hK _ _ ?_; clear hK K)
            refine wpList_load_mid rfl 61 (.tmp 10) rfl Y 0 rfl [.string ry, .int .i64 rk0, .int .i64 rn, .float .f64 rf, .string rs, .slice ra rnn rc] _ (rangeAt_ew HHx.out) Tryz.underlying61 rfl (by kernel_rfl) ?_
            simp only [Act.put, List.setIfInBounds_toArray, List.set_cons_succ, List.set_cons_zero]
            iterate 1 (refine wpList_plain rfl fun K hK => ?_; go_simp; refine hK _ _ ?_; clear hK K)
            refine wpList_append_runQ rfl (.tmp 44) (.tmp 46) rfl _ _ _ rfl rfl hrun ?_
            simp only [Act.put, List.setIfInBounds_toArray, List.set_cons_succ, List.set_cons_zero]
            obtain ⟨bv, bcap, hbv, -⟩ := hn8.shape
            have HQ : Hid (NewQ W2 w8 v' (raws ++ [⟨ry, rk0, rn, rf, rs, ⟨ra, rnn, rc⟩⟩]) ∧ (raws ++ [(⟨ry, rk0, rn, rf, rs, ⟨ra, rnn, rc⟩⟩ : Ew)]).length ≤ i + 1 ∧ EtRow (EtAt w8 (fun q => W0.heap.size ≤ q ∧ v'.ownBlock ≠ some q) n) (raws ++ [⟨ry, rk0, rn, rf, rs, ⟨ra, rnn, rc⟩⟩]) ((ks.take (i + 1)).filterMap fun ky => entE (viewE s n) (getS s c k (strK ky)) ky)) := by
              exact ⟨hn8, by have := HI2.out; simp; omega, HRn.out⟩
            have hbv2 : v' = .slice bv (raws.length + 1) bcap := by rw [hbv]; simp
            clear hbv
            subst hbv2
            clear hrun hn8 hg8 htg hvlt hvwr hown8 hown0 hb8 HRn HNw hr HK HHx hbs HI HFM HEn
            go_wp2_with fail
            go_roundg (ks.length - (i + 1))
            case measure => have := HIl.out; omega
            case rel => exact ⟨i + 1, _, by have := HIl.out; omega, by go_num, HQ.out⟩
      · have : i = ks.length := by omega
        subst this
        obtain ⟨av, acap, hav, -⟩ := HI.out.1.shape
        subst hav
        have HQ : Hid (EtAt wr (fun q => W0.heap.size ≤ q) (n + 1) (.slice av raws.length acap) (viewE s (n + 1) c k) ∧ Touch (fun _ => False) W0 wr) := by
          refine ⟨⟨raws, HI.out.1.slS.mono fun q _ h => Nat.le_trans (HT0E.out.trans HTs.out.2).size h, ?_⟩, HT0E.out.trans (HTs.out.2.trans HI.out.1.touch)⟩
          have := HI.out.2.2
          rw [List.take_length] at this
          rw [HVS.out]
          exact this.mono fun v l q => q.mono fun j _ h => h.1
        clear HI HSt HGe HD HVS HIH HBx
        go_wp2_with fail
        go_ret
        exact ⟨_, rfl, HQ.out.1, HQ.out.2⟩
end
end Go.Proofs.YtodpdcflbnomgaaGreat

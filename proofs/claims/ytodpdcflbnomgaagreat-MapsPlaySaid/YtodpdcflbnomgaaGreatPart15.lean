/- Package maps: View; the law's sets; Find. -/
import Derived.Test.YtodpdcflbnomgaaGreatMpQ
namespace Go.Proofs.YtodpdcflbnomgaaGreat
open Go.RowKit Go.Maps
set_option linter.unusedVariables false
set_option linter.unusedSimpArgs false
set_option maxRecDepth 100000

theorem u64_zero : U64 0 := ⟨by decide, by decide⟩
section
variable {g : Nat} {s : MS}
set_option maxHeartbeats 4000000 in
theorem view_any {w : World} {F : Nat → Prop} (h : MapsAt w g F s) (n : Nat) (hd : Deep s n 0 0) :
    Calls Tryz.prog 21 #[.pointer (some ⟨g, 0, none⟩)] w fun e w' => ∃ v, e = .returned v ∧ EtAt w' (fun q => w.heap.size ≤ q) n v (viewE s n 0 0) ∧ Touch (fun _ => False) w w' := by
  obtain ⟨mt, mk, hv, os, hC, -, -⟩ := h
  have HE : Hid (Calls Tryz.prog 37 #[.pointer (some ⟨g, 0, none⟩), idV 0 0] w fun e w' => ∃ v, e = .returned v ∧ EtAt w' (fun q => w.heap.size ≤ q) n v (viewE s n 0 0) ∧ Touch (fun _ => False) w w') := entriesC_any hC n 0 0 u64_zero u64_zero hd w (Touch.refl _ _)
  clear hC hd
  generalize viewE s n 0 0 = L at *
  go_enter Tryz.func21, Tryz.ntmps21
  go_wp2_with fail
  refine HE.out.mono ?_
  rintro e w1 ⟨v, rfl, het, t⟩
  have HQ : Hid (EtAt w1 (fun q => w.heap.size ≤ q) n v L ∧ Touch (fun _ => False) w w1) := ⟨het, t⟩
  obtain ⟨ao, cap, rfl⟩ := het.shape
  clear het t HE
  go_wp2_with fail
  go_ret
  exact ⟨_, rfl, HQ.out⟩
end
/-- A set of the laws' first client. -/
def setO (clock stamp pc pk : Int) (ky : ByteArray) (v : V) : O := ⟨1, clock, 4, stamp, 0, 0, 0, 0, ⟨#[]⟩, v.k, v.n, v.f, v.s, ky, pc, pk, 0, 0, false, 0, 0, false⟩
set_option maxHeartbeats 4000000 in
theorem setO_any (clock stamp pc pk : Int) (ky : ByteArray) (v : V) (w : World) :
    Calls Tryz.prog 16 #[.int .u64 clock, .int .u64 stamp, idV pc pk, .string ky, v.val] w fun e w' => e = .returned (setO clock stamp pc pk ky v).val ∧ Touch (fun _ => False) w w' := by
  obtain ⟨vk, vn, vf, vs⟩ := v
  obtain ⟨E, hE⟩ : ∃ E, Hid (E = ((w.alloc (idO pc pk)).alloc (.cells #[.int .i64 vk, .int .i64 vn, .float .f64 vf, .string vs] 37)).alloc zeroOp) := ⟨_, Eq.refl _⟩
  have tE : Touch (fun _ => False) w E := by rw [hE.out]; exact (((Touch.refl _ _).alloc _).alloc _).alloc _
  have HTE : Hid (Touch (fun _ => False) w E) := tE
  have h12 := heap_two w (idO pc pk) (.cells #[.int .i64 vk, .int .i64 vn, .float .f64 vf, .string vs] 37)
  have s2 : ((w.alloc (idO pc pk)).alloc (.cells #[.int .i64 vk, .int .i64 vn, .float .f64 vf, .string vs] 37)).heap.size = w.heap.size + 1 + 1 := by simp
  have t3 : Touch (fun _ => False) ((w.alloc (idO pc pk)).alloc (.cells #[.int .i64 vk, .int .i64 vn, .float .f64 vf, .string vs] 37)) E := by rw [hE.out]; exact (Touch.refl _ _).alloc _
  have e1 : E.heap[w.heap.size]? = some (idO pc pk) := (t3.block _ (by omega) id).trans h12.1
  have e2 : E.heap[w.heap.size + 1]? = some (.cells #[.int .i64 vk, .int .i64 vn, .float .f64 vf, .string vs] 37) := (t3.block _ (by omega) id).trans h12.2
  have e3 : OpAt (w.heap.size + 1 + 1) zeroO E := by
    rw [← s2, hE.out]; exact heap_alloc_new _ _
  have a0 : E.cell? ⟨w.heap.size, 0, none⟩ = some (.int .u64 pc) := by rw [cell_of_block e1]; rfl
  have a1 : E.cell? ⟨w.heap.size, 1, none⟩ = some (.int .u64 pk) := by rw [cell_of_block e1]; rfl
  have b0 : E.cell? ⟨w.heap.size + 1, 0, none⟩ = some (.int .i64 vk) := by rw [cell_of_block e2]; rfl
  have b1 : E.cell? ⟨w.heap.size + 1, 1, none⟩ = some (.int .i64 vn) := by rw [cell_of_block e2]; rfl
  have b2 : E.cell? ⟨w.heap.size + 1, 2, none⟩ = some (.float .f64 vf) := by rw [cell_of_block e2]; rfl
  have b3 : E.cell? ⟨w.heap.size + 1, 3, none⟩ = some (.string vs) := by rw [cell_of_block e2]; rfl
  have HB3 : Hid (OpAt (w.heap.size + 1 + 1) zeroO E) := e3
  clear e1 e2 e3 t3 s2 h12 tE
  show Calls _ _ #[_, _, _, _, .agg #[.int .i64 vk, .int .i64 vn, .float .f64 vf, .string vs]] _ _
  go_enter Tryz.func16, Tryz.ntmps16
  go_upto_region 1 with fail
  rw [← hE.out]
  clear hE
  refine wp_region_lit ?_
  iterate 7 (refine wpList_plain rfl fun K hK => ?_; go_simp; refine hK _ _ ?_; clear hK K)
  refine wpList_store_mid rfl 41 (.tmp 10) (.tmp 17) rfl (w.heap.size + 1 + 1) 0 (setO clock stamp pc pk ky ⟨vk, vn, vf, vs⟩).vals rfl rfl (HB3.out.there 0 22 (by decide)) (by kernel_rfl) (by kernel_rfl) ?_
  simp only [Act.put]
  obtain ⟨W2, hW2⟩ : ∃ W2, Hid (W2 = E.setCells (w.heap.size + 1 + 1) 0 (setO clock stamp pc pk ky ⟨vk, vn, vf, vs⟩).vals.toList) := ⟨_, Eq.refl _⟩
  have HT2 : Hid (Touch (fun _ => False) w W2) := by rw [hW2.out]; exact HTE.out.stores (by omega) 0 _
  have HB2 : Hid (OpAt (w.heap.size + 1 + 1) (setO clock stamp pc pk ky ⟨vk, vn, vf, vs⟩) W2) := by rw [hW2.out]; exact HB3.out.store0
  rw [← hW2.out]
  clear hW2 HB3 a0 a1 b0 b1 b2 b3
  go_wp2_with fail
  have hLd := run_loadVar_mid (P := Tryz.prog) W2 (w.heap.size + 1 + 1) 0 41 (setO clock stamp pc pk ky ⟨vk, vn, vf, vs⟩).vals.toList _ (rangeAt_of HB2.out) Tryz.underlying41 rfl (by kernel_rfl)
  refine bodyPost_ret (v := (setO clock stamp pc pk ky ⟨vk, vn, vf, vs⟩).val) ?_ rfl ⟨rfl, HT2.out⟩
  simp [results, Tryz.results16, asAddr, hLd]
end Go.Proofs.YtodpdcflbnomgaaGreat

/- Package maps: Find. -/
namespace Go.Proofs.YtodpdcflbnomgaaGreat
open Go.RowKit Go.Maps
set_option linter.unusedVariables false
set_option linter.unusedSimpArgs false
set_option maxRecDepth 100000

/-- Where a path leads. -/
def findS (s : MS) : Int → Int → List Key → Int × Int × Bool
  | c, k, [] => (c, k, true)
  | c, k, x :: r => if (getS s c k (strK x)).2 = true ∧ isMapB (getS s c k (strK x)).1 = true then findS s (getS s c k (strK x)).1.c (getS s c k (strK x)).1.k r else (0, 0, false)
/-- What is found are numbers of 64 bits. -/
def FitS (s : MS) : Prop := ∀ c k ky, U64 c → U64 k → (getS s c k ky).2 = true → (getS s c k ky).1.fits
theorem greatO_mem {sh : Int → Int → Bool} {r : List O} (h : hasO sh r = true) : greatO sh r ∈ r := by
  unfold hasO at h
  have h0 : 0 ≤ fromO sh r 0 := of_decide_eq_true h
  have h1 := fromO_lt sh r r.length 0 (by omega)
  unfold greatO
  rw [if_neg (by omega), rowO_at r _ (by omega)]
  exact List.getElem_mem _
theorem rankS_mem {s : MS} {c k : Int} {ky : ByteArray} {o : O} (h : o ∈ rankS s c k ky) : ∃ p ∈ s.keys, ∃ q ∈ p.2, q.1 = ky.data.toList ∧ p.1 = kI c k ∧ q.2 = rankS s c k ky ∧ o ∈ q.2 := by
  unfold rankS at h ⊢
  cases e : aget (kI c k) s.keys with
  | none => rw [e] at h; simp [aget] at h
  | some m =>
    rw [e] at h
    simp only [Option.getD_some] at h ⊢
    cases e2 : aget ky.data.toList m with
    | none => rw [e2] at h; simp at h
    | some r =>
      rw [e2] at h
      exact ⟨_, aget_mem e, _, aget_mem e2, rfl, rfl, rfl, h⟩
theorem getS_true {s : MS} {c k : Int} {ky : ByteArray} (h : (getS s c k ky).2 = true) : hasO (shS s) (rankS s c k ky) = true ∧ (greatO (shS s) (rankS s c k ky)).vk ≠ 0 ∧ getS s c k ky = (greatO (shS s) (rankS s c k ky), true) := by
  unfold getS at h ⊢
  by_cases e : hasO (shS s) (rankS s c k ky) = true ∧ (greatO (shS s) (rankS s c k ky)).vk ≠ 0
  · rw [if_pos e]; exact ⟨e.1, e.2, rfl⟩
  · rw [if_neg e] at h; cases h
abbrev zeroId : Obj := .cells #[.int .u64 0, .int .u64 0] 34
theorem id_stored {W : World} {b : Nat} {c k : Int} (h : W.heap[b]? = some (idO c k)) (c2 k2 : Int) : (W.setCells b 0 [.int .u64 c2, .int .u64 k2]).heap[b]? = some (idO c2 k2) := by
  rw [cells_storedS h]; rfl
theorem rangeAt_id {W : World} {b : Nat} {c k : Int} (h : W.heap[b]? = some (idO c k)) : W.rangeAt b 0 [.int .u64 c, .int .u64 k] := by
  intro j v hv
  rw [Nat.zero_add, cell_of_block h]
  match j, hv with
  | 0, hv => cases hv; rfl
  | 1, hv => cases hv; rfl
section
variable {g : Nat} {s : MS}
set_option maxHeartbeats 16000000 in
theorem find_any {w : World} {F : Nat → Prop} (h : MapsAt w g F s) (hf : FitS s) (v : Value) (ks : List Key) (hv : StrsAt w v ks) (hks : ∀ k ∈ ks, k.length ≤ 281474976710656) (hkl : ks.length ≤ 1000000) :
    Calls Tryz.prog 12 #[.pointer (some ⟨g, 0, none⟩), v] w fun e w' => e = .returned (.tuple #[idV (findS s 0 0 ks).1 (findS s 0 0 ks).2.1, .bool (findS s 0 0 ks).2.2]) ∧ Touch (fun _ => False) w w' := by
  have HG : Hid (∀ c k, U64 c → U64 k → ∀ ky ∈ ks, ∀ W, Touch (fun _ => False) w W → Calls Tryz.prog 9 #[.pointer (some ⟨g, 0, none⟩), idV c k, .string (strK ky)] W fun e w' => e = .returned (.tuple #[(getS s c k (strK ky)).1.val, .bool (getS s c k (strK ky)).2]) ∧ Touch (fun _ => False) W w') := fun c k hc hk ky hky W t =>
    get_any (h.touch t fun _ _ => id) hc hk (strK ky) (by have h1 := hks ky hky; have h2 : (strK ky).size = ky.length := by simp [strK, ByteArray.size]
                                                          unfold maxLen; omega)
  have HF : Hid (FitS s) := hf
  obtain ⟨so, scap, rfl, hst0⟩ := hv
  have HSt : Hid (∀ i (h : i < ks.length), ∃ b o, so = some ⟨b, o, none⟩ ∧ ∀ W, Touch (fun _ => False) w W → W.cell? ⟨b, o + i, none⟩ = some (.string (strK ks[i]))) := hst0
  obtain ⟨B, hB⟩ : ∃ B, Hid (B = w.heap.size) := ⟨_, Eq.refl _⟩
  obtain ⟨E, hE⟩ : ∃ E, Hid (E = w.alloc zeroId) := ⟨_, Eq.refl _⟩
  have HTE : Hid (Touch (fun _ => False) w E ∧ E.heap[B]? = some (idO 0 0)) := by rw [hE.out, hB.out]; exact ⟨(Touch.refl _ _).alloc _, heap_alloc_new _ _⟩
  obtain ⟨R, hR⟩ : ∃ R, Hid (R = findS s 0 0 ks) := ⟨_, Eq.refl _⟩
  rw [← hR.out]
  clear h hf hks hst0
  go_enter Tryz.func12, Tryz.ntmps12
  go_upto_region 1 with fail
  rw [← hE.out, ← hB.out]
  clear hE
  refine wp_region_lit ?_
  iterate 2 (refine wpList_plain rfl fun K hK => ?_; go_simp; refine hK _ _ ?_; clear hK K)
  obtain ⟨A0, hA0⟩ : ∃ A, Hid (A = E.heap.size) := ⟨_, Eq.refl _⟩
  refine wpList_store_mid rfl 34 (.tmp 6) (.tmp 11) rfl E.heap.size 0 #[.int .u64 0, .int .u64 0] rfl rfl (there_ofS (heap_alloc_new E zeroId) 0 2 (by decide)) (by kernel_rfl) (by kernel_rfl) ?_
  simp only [Act.put]
  obtain ⟨W1, hW1⟩ : ∃ W, Hid (W = (E.alloc zeroId).setCells E.heap.size 0 [.int .u64 0, .int .u64 0]) := ⟨_, Eq.refl _⟩
  have HT1 : Hid (Touch (fun _ => False) w W1 ∧ W1.heap[B]? = some (idO 0 0) ∧ W1.heap[A0]? = some (idO 0 0) ∧ B < A0 ∧ w.heap.size ≤ B) := by
    have t1 : Touch (fun _ => False) E W1 := by rw [hW1.out]; exact ((Touch.refl _ _).alloc _).stores (Nat.le_refl _) 0 _
    refine ⟨HTE.out.1.trans t1, (t1.block B (lt_of_heap HTE.out.2) id).trans HTE.out.2, ?_, by rw [hA0.out]; exact lt_of_heap HTE.out.2, by rw [hB.out]; exact Nat.le_refl _⟩
    rw [hW1.out, hA0.out]
    exact id_stored (heap_alloc_new E zeroId) 0 0
  rw [← hW1.out, ← hA0.out]
  clear hW1 hA0 HTE
  go_wp2_with fail
  go_loopg [14] ks.length (fun gk s14 wr => ∃ (i : Nat) (c k : Int), i + gk = ks.length ∧ s14 = .int .i64 (i : Int) ∧ Hid (Touch (fun _ => False) w wr ∧ wr.heap[B]? = some (idO 0 0) ∧ wr.heap[A0]? = some (idO c k) ∧ U64 c ∧ U64 k ∧ R = findS s c k (ks.drop i)))
  case atStart => exact ⟨0, 0, 0, by omega, rfl, HT1.out.1, HT1.out.2.1, HT1.out.2.2.1, u64_zero, u64_zero, hR.out⟩
  case round =>
    obtain ⟨i, c, k, hig, rfl, HI⟩ := hrel
    by_cases hil : i < ks.length
    · obtain ⟨sb, sof, rfl, hst⟩ := HSt.out i hil
      have HStr : Hid (∀ W, Touch (fun _ => False) w W → W.cell? ⟨sb, sof + i, none⟩ = some (.string (strK ks[i]))) := hst
      have hi1 : (0 : Int) ≤ (i : Int) := by omega
      have hi2 : (i : Int) < (ks.length : Int) := by omega
      have HGet : Hid (∀ W, Touch (fun _ => False) w W → _) := HG.out c k HI.out.2.2.2.1 HI.out.2.2.2.2.1 ks[i] (List.getElem_mem hil)
      have HGet2 : Hid (∀ W, Touch (fun _ => False) w W → Calls Tryz.prog 9 #[.pointer (some ⟨g, 0, none⟩), idV c k, .string (strK ks[i])] W fun e w' => e = .returned (.tuple #[(getS s c k (strK ks[i])).1.val, .bool (getS s c k (strK ks[i])).2]) ∧ Touch (fun _ => False) W w') := HGet.out
      have hdr : ks.drop i = ks[i] :: ks.drop (i + 1) := List.drop_eq_getElem_cons hil
      have HRi : Hid (R = if (getS s c k (strK ks[i])).2 = true ∧ isMapB (getS s c k (strK ks[i])).1 = true then findS s (getS s c k (strK ks[i])).1.c (getS s c k (strK ks[i])).1.k (ks.drop (i + 1)) else (0, 0, false)) := by
        have := HI.out.2.2.2.2.2
        rw [hdr] at this
        exact this
      have HFt : Hid ((getS s c k (strK ks[i])).2 = true → (getS s c k (strK ks[i])).1.fits) := HF.out _ _ _ HI.out.2.2.2.1 HI.out.2.2.2.2.1
      have HIl : Hid (i < ks.length) := hil
      have HT : Hid (Touch (fun _ => False) w wr ∧ wr.heap[B]? = some (idO 0 0) ∧ wr.heap[A0]? = some (idO c k)) := ⟨HI.out.1, HI.out.2.1, HI.out.2.2.1⟩
      clear HGet hdr HI hst
      generalize hgs : getS s c k (strK ks[i]) = GH at HRi HGet2 HFt
      generalize hky : strK ks[i] = ky at HStr HGet2
      obtain ⟨G, H⟩ := GH
      simp only at HGet2 HRi HFt
      clear hgs hky hil
      have S0 := HStr.out wr HT.out.1
      go_upto_region 5 with fail
      refine wp_region_lit ?_
      iterate 1 (refine wpList_plain rfl fun K hK => ?_; go_simp; refine hK _ _ ?_; clear hK K)
      refine wpList_load_mid rfl 34 (.tmp 6) rfl A0 0 rfl [.int .u64 c, .int .u64 k] _ (rangeAt_id HT.out.2.2) Tryz.underlying34 rfl (by kernel_rfl) ?_
      simp only [Act.put, List.setIfInBounds_toArray, List.set_cons_succ, List.set_cons_zero]
      iterate 1 (refine wpList_plain rfl fun K hK => ?_; go_simp; refine hK _ _ ?_; clear hK K)
      refine wpList_plain rfl fun K hK => ?_
      go_simp
      refine (HGet2.out wr HT.out.1).mono ?_
      rintro e w3 ⟨rfl, t3⟩
      refine hK _ _ ?_
      clear hK K
      have HT3 : Hid (Touch (fun _ => False) w w3 ∧ w3.heap[B]? = some (idO 0 0) ∧ w3.heap[A0]? = some (idO c k)) := ⟨HT.out.1.trans t3, (t3.block B (lt_of_heap HT.out.2.1) id).trans HT.out.2.1, (t3.block A0 (lt_of_heap HT.out.2.2) id).trans HT.out.2.2⟩
      clear t3 HT HGet2 S0
      iterate 4 (refine wpList_plain rfl fun K hK => ?_; go_simp; refine hK _ _ ?_; clear hK K)
      obtain ⟨X, hX⟩ : ∃ X, Hid (X = w3.heap.size) := ⟨_, Eq.refl _⟩
      refine wpList_store_mid rfl 41 (.tmp 9) (.tmp 23) rfl w3.heap.size 0 G.vals rfl rfl (OpAt.there (o := zeroO) (heap_alloc_new w3 zeroOp) 0 22 (by decide)) (by kernel_rfl) (by kernel_rfl) ?_
      simp only [Act.put]
      obtain ⟨W4, hW4⟩ : ∃ W, Hid (W = (w3.alloc zeroOp).setCells w3.heap.size 0 G.vals.toList) := ⟨_, Eq.refl _⟩
      have hn4 := newOpM w3 G
      rw [← hW4.out] at hn4 ⊢
      rw [← hX.out] at hn4 ⊢
      have HT4 : Hid (Touch (fun _ => False) w W4 ∧ W4.heap[B]? = some (idO 0 0) ∧ W4.heap[A0]? = some (idO c k) ∧ OpAt X G W4) := ⟨HT3.out.1.trans hn4.1, (hn4.1.block B (lt_of_heap HT3.out.2.1) id).trans HT3.out.2.1, (hn4.1.block A0 (lt_of_heap HT3.out.2.2) id).trans HT3.out.2.2, hn4.2⟩
      clear hn4 hW4 HT3 hX
      iterate 1 (refine wpList_plain rfl fun K hK => ?_; go_simp; refine hK _ _ ?_; clear hK K)
      generalize Value.agg G.vals = gv
      cases H with
      | false =>
        have HR0 : Hid (R = (0, 0, false)) := by have := HRi.out; rw [if_neg (by simp)] at this; exact this
        clear HRi HFt
        go_upto_region 7 with fail
        refine wp_region_lit ?_
        iterate 1 (refine wpList_plain rfl fun K hK => ?_; go_simp; refine hK _ _ ?_; clear hK K)
        refine wpList_store_mid rfl 34 (.tmp 4) (.tmp 32) rfl B 0 #[.int .u64 0, .int .u64 0] rfl rfl (there_ofS HT4.out.2.1 0 2 (by decide)) (by kernel_rfl) (by kernel_rfl) ?_
        simp only [Act.put]
        obtain ⟨W5, hW5⟩ : ∃ W, Hid (W = W4.setCells B 0 [.int .u64 0, .int .u64 0]) := ⟨_, Eq.refl _⟩
        have HT5 : Hid (Touch (fun _ => False) w W5 ∧ W5.heap[B]? = some (idO 0 0)) := by rw [hW5.out]; exact ⟨HT4.out.1.stores HT1.out.2.2.2.2 0 _, id_stored HT4.out.2.1 0 0⟩
        rw [← hW5.out]
        clear hW5 HT4
        go_wp2_with fail
        have hLd := run_loadVar_mid (P := Tryz.prog) W5 B 0 34 [.int .u64 0, .int .u64 0] _ (rangeAt_id HT5.out.2) Tryz.underlying34 rfl (by kernel_rfl)
        refine bodyPost_ret (v := .tuple #[idV 0 0, .bool false]) ?_ rfl ⟨by rw [HR0.out], HT5.out.1⟩
        simp [results, Tryz.results12, asAddr, hLd]
      | true =>
        have HMp : Hid (∀ W, Calls Tryz.prog 29 #[G.val] W fun e w' => e = .returned (.bool (isMapB G)) ∧ Touch (fun _ => False) W w') := fun W => isMap_any G W
        go_upto_region 6 with fail
        refine wp_region_lit ?_
        iterate 3 (refine wpList_plain rfl fun K hK => ?_; go_simp; refine hK _ _ ?_; clear hK K)
        refine wpList_step fun K hK => ?_
        rw [if_pos (by kernel_rfl)]
        refine wp_load_mid 41 (.tmp 9) rfl X 0 rfl G.vals.toList _ (rangeAt_of HT4.out.2.2.2) Tryz.underlying41 rfl (by kernel_rfl) (hK _ _ ?_)
        clear hK K
        simp only [Act.put, List.setIfInBounds_toArray, List.set_cons_succ, List.set_cons_zero]
        refine wpList_step fun K hK => ?_
        rw [if_pos (by kernel_rfl)]
        go_simp
        refine (HMp.out _).mono ?_
        rintro e W5 ⟨rfl, t5⟩
        refine hK _ _ ?_
        clear hK K HMp
        have HT5 : Hid (Touch (fun _ => False) w W5 ∧ W5.heap[B]? = some (idO 0 0) ∧ W5.heap[A0]? = some (idO c k) ∧ OpAt X G W5) := ⟨HT4.out.1.trans t5, (t5.block B (lt_of_heap HT4.out.2.1) id).trans HT4.out.2.1, (t5.block A0 (lt_of_heap HT4.out.2.2.1) id).trans HT4.out.2.2.1, HT4.out.2.2.2.keep t5⟩
        clear t5 HT4
        generalize Value.agg G.vals = gv2
        generalize isMapB G = mb at *
        refine wpList_step fun K hK => ?_
        rw [if_pos (by kernel_rfl)]
        go_simp
        refine hK _ _ ?_
        clear hK K
        iterate 1 (refine wpList_plain rfl fun K hK => ?_; go_simp; refine hK _ _ ?_; clear hK K)
        cases mb with
        | false =>
          have HR0 : Hid (R = (0, 0, false)) := by have := HRi.out; rw [if_neg (by simp)] at this; exact this
          clear HRi HFt
          go_upto_region 7 with fail
          refine wp_region_lit ?_
          iterate 1 (refine wpList_plain rfl fun K hK => ?_; go_simp; refine hK _ _ ?_; clear hK K)
          refine wpList_store_mid rfl 34 (.tmp 4) (.tmp 32) rfl B 0 #[.int .u64 0, .int .u64 0] rfl rfl (there_ofS HT5.out.2.1 0 2 (by decide)) (by kernel_rfl) (by kernel_rfl) ?_
          simp only [Act.put]
          obtain ⟨W6, hW6⟩ : ∃ W, Hid (W = W5.setCells B 0 [.int .u64 0, .int .u64 0]) := ⟨_, Eq.refl _⟩
          have HT6 : Hid (Touch (fun _ => False) w W6 ∧ W6.heap[B]? = some (idO 0 0)) := by rw [hW6.out]; exact ⟨HT5.out.1.stores HT1.out.2.2.2.2 0 _, id_stored HT5.out.2.1 0 0⟩
          rw [← hW6.out]
          clear hW6 HT5
          go_wp2_with fail
          have hLd := run_loadVar_mid (P := Tryz.prog) W6 B 0 34 [.int .u64 0, .int .u64 0] _ (rangeAt_id HT6.out.2) Tryz.underlying34 rfl (by kernel_rfl)
          refine bodyPost_ret (v := .tuple #[idV 0 0, .bool false]) ?_ rfl ⟨by rw [HR0.out], HT6.out.1⟩
          simp [results, Tryz.results12, asAddr, hLd]
        | true =>
          have HR0 : Hid (R = findS s G.c G.k (ks.drop (i + 1))) := by have := HRi.out; rw [if_pos (by simp)] at this; exact this
          have hft := HFt.out rfl
          have HU : Hid (U64 G.c ∧ U64 G.k) := ⟨hft.uc, hft.uk⟩
          clear HRi HFt hft
          have h0 := HT5.out.2.2.2.idAt
          go_upto_region 8 with fail
          refine wp_region_lit ?_
          iterate 1 (refine wpList_plain rfl fun K hK => ?_; go_simp; refine hK _ _ ?_; clear hK K)
          refine wpList_load_mid rfl 34 (.tmp 33) rfl X 0 rfl [.int .u64 G.c, .int .u64 G.k] _ h0 Tryz.underlying34 rfl (by kernel_rfl) ?_
          simp only [Act.put, List.setIfInBounds_toArray, List.set_cons_succ, List.set_cons_zero]
          refine wpList_store_mid rfl 34 (.tmp 6) (.tmp 34) rfl A0 0 #[.int .u64 G.c, .int .u64 G.k] rfl rfl (there_ofS HT5.out.2.2.1 0 2 (Nat.le_refl 2)) (by kernel_rfl) (by kernel_rfl) ?_
          simp only [Act.put]
          obtain ⟨W6, hW6⟩ : ∃ W, Hid (W = W5.setCells A0 0 [.int .u64 G.c, .int .u64 G.k]) := ⟨_, Eq.refl _⟩
          have HT6 : Hid (Touch (fun _ => False) w W6 ∧ W6.heap[B]? = some (idO 0 0) ∧ W6.heap[A0]? = some (idO G.c G.k) ∧ U64 G.c ∧ U64 G.k ∧ R = findS s G.c G.k (ks.drop (i + 1))) := by
            rw [hW6.out]
            have tc := Touch.cells A0 [.int .u64 G.c, .int .u64 G.k] 0 W5
            exact ⟨HT5.out.1.stores (by have := HT1.out.2.2.2; omega) 0 _, (tc.block B (lt_of_heap HT5.out.2.1) (by have := HT1.out.2.2.2.1; omega)).trans HT5.out.2.1, id_stored HT5.out.2.2.1 _ _, HU.out.1, HU.out.2, HR0.out⟩
          rw [← hW6.out]
          clear hW6 HT5 h0 HU HR0
          go_wp2_with fail
          go_roundg (ks.length - (i + 1))
          case measure => have := HIl.out; omega
          case rel => exact ⟨i + 1, _, _, by have := HIl.out; omega, by go_num, HT6.out⟩
    · have : i = ks.length := by omega
      subst this
      have HQ : Hid (R = (c, k, true)) := by
        have := HI.out.2.2.2.2.2
        rw [List.drop_length] at this
        exact this
      have HT : Hid (Touch (fun _ => False) w wr ∧ wr.heap[B]? = some (idO 0 0) ∧ wr.heap[A0]? = some (idO c k)) := ⟨HI.out.1, HI.out.2.1, HI.out.2.2.1⟩
      clear HI HSt HG
      go_upto_region 10 with fail
      refine wp_region_lit ?_
      refine wpList_load_mid rfl 34 (.tmp 6) rfl A0 0 rfl [.int .u64 c, .int .u64 k] _ (rangeAt_id HT.out.2.2) Tryz.underlying34 rfl (by kernel_rfl) ?_
      simp only [Act.put, List.setIfInBounds_toArray, List.set_cons_succ, List.set_cons_zero]
      refine wpList_store_mid rfl 34 (.tmp 4) (.tmp 36) rfl B 0 #[.int .u64 c, .int .u64 k] rfl rfl (there_ofS HT.out.2.1 0 2 (Nat.le_refl 2)) (by kernel_rfl) (by kernel_rfl) ?_
      simp only [Act.put]
      obtain ⟨W5, hW5⟩ : ∃ W, Hid (W = wr.setCells B 0 [.int .u64 c, .int .u64 k]) := ⟨_, Eq.refl _⟩
      have HT5 : Hid (Touch (fun _ => False) w W5 ∧ W5.heap[B]? = some (idO c k)) := by rw [hW5.out]; exact ⟨HT.out.1.stores HT1.out.2.2.2.2 0 _, id_stored HT.out.2.1 _ _⟩
      rw [← hW5.out]
      clear hW5 HT
      go_wp2_with fail
      have hLd := run_loadVar_mid (P := Tryz.prog) W5 B 0 34 [.int .u64 c, .int .u64 k] _ (rangeAt_id HT5.out.2) Tryz.underlying34 rfl (by kernel_rfl)
      refine bodyPost_ret (v := .tuple #[idV c k, .bool true]) ?_ rfl ⟨by rw [HQ.out], HT5.out.1⟩
      simp [results, Tryz.results12, asAddr, hLd]
end
end Go.Proofs.YtodpdcflbnomgaaGreat

/- Package maps: View; the law's sets; Find. -/
import Derived.Test.YtegldlfbmaapiaaMpQ
namespace Go.Proofs.Ytegldlfbmaapiaa
open Go.RowKit Go.Maps
set_option linter.unusedVariables false
set_option linter.unusedSimpArgs false
set_option maxRecDepth 100000

theorem u64_zero : U64 0 := ⟨by decide, by decide⟩
section
variable {g : Nat} {s : MS}
set_option maxHeartbeats 4000000 in
theorem view_any {w : World} {F : Nat → Prop} (h : MapsAt w g F s) (n : Nat) (hd : Deep s n 0 0) :
    Calls Try.prog 13 #[.pointer (some ⟨g, 0, none⟩)] w fun e w' => ∃ v, e = .returned v ∧ EtAt w' (fun q => w.heap.size ≤ q) n v (viewE s n 0 0) ∧ Touch (fun _ => False) w w' := by
  obtain ⟨mt, mk, hv, os, hC, -, -⟩ := h
  have HE : Hid (Calls Try.prog 26 #[.pointer (some ⟨g, 0, none⟩), idV 0 0] w fun e w' => ∃ v, e = .returned v ∧ EtAt w' (fun q => w.heap.size ≤ q) n v (viewE s n 0 0) ∧ Touch (fun _ => False) w w') := entriesC_any hC n 0 0 u64_zero u64_zero hd w (Touch.refl _ _)
  clear hC hd
  generalize viewE s n 0 0 = L at *
  go_enter Try.func13, Try.ntmps13
  go_wp2_with fail
  refine HE.out.mono ?_
  rintro e w1 ⟨v, rfl, het, t⟩
  have HQ : Hid (EtAt w1 (fun q => w.heap.size ≤ q) n v L ∧ Touch (fun _ => False) w w1) := ⟨het, t⟩
  obtain ⟨ao, cap, rfl⟩ := het.shape
  clear het t HE
  go_wp2_with fail
  go_ret
  exact ⟨_, rfl, HQ.out⟩
end
/-- A set of the laws' first client. -/
def setO (clock stamp pc pk : Int) (ky : ByteArray) (v : V) : O := ⟨1, clock, 4, stamp, 0, 0, 0, 0, ⟨#[]⟩, v.k, v.n, v.f, v.s, ky, pc, pk, 0, 0, false, 0, 0, false⟩
set_option maxHeartbeats 4000000 in
theorem setO_any (clock stamp pc pk : Int) (ky : ByteArray) (v : V) (w : World) :
    Calls Try.prog 15 #[.int .u64 clock, .int .u64 stamp, idV pc pk, .string ky, v.val] w fun e w' => e = .returned (setO clock stamp pc pk ky v).val ∧ Touch (fun _ => False) w w' := by
  obtain ⟨vk, vn, vf, vs⟩ := v
  obtain ⟨E, hE⟩ : ∃ E, Hid (E = ((w.alloc (idO pc pk)).alloc (.cells #[.int .i64 vk, .int .i64 vn, .float .f64 vf, .string vs] 37)).alloc zeroOp) := ⟨_, Eq.refl _⟩
  have tE : Touch (fun _ => False) w E := by rw [hE.out]; exact (((Touch.refl _ _).alloc _).alloc _).alloc _
  have HTE : Hid (Touch (fun _ => False) w E) := tE
  have h12 := heap_two w (idO pc pk) (.cells #[.int .i64 vk, .int .i64 vn, .float .f64 vf, .string vs] 37)
  have s2 : ((w.alloc (idO pc pk)).alloc (.cells #[.int .i64 vk, .int .i64 vn, .float .f64 vf, .string vs] 37)).heap.size = w.heap.size + 1 + 1 := by simp
  have t3 : Touch (fun _ => False) ((w.alloc (idO pc pk)).alloc (.cells #[.int .i64 vk, .int .i64 vn, .float .f64 vf, .string vs] 37)) E := by rw [hE.out]; exact (Touch.refl _ _).alloc _
  have e1 : E.heap[w.heap.size]? = some (idO pc pk) := (t3.block _ (by omega) id).trans h12.1
  have e2 : E.heap[w.heap.size + 1]? = some (.cells #[.int .i64 vk, .int .i64 vn, .float .f64 vf, .string vs] 37) := (t3.block _ (by omega) id).trans h12.2
  have e3 : OpAt (w.heap.size + 1 + 1) zeroO E := by
    rw [← s2, hE.out]; exact heap_alloc_new _ _
  have a0 : E.cell? ⟨w.heap.size, 0, none⟩ = some (.int .u64 pc) := by rw [cell_of_block e1]; rfl
  have a1 : E.cell? ⟨w.heap.size, 1, none⟩ = some (.int .u64 pk) := by rw [cell_of_block e1]; rfl
  have b0 : E.cell? ⟨w.heap.size + 1, 0, none⟩ = some (.int .i64 vk) := by rw [cell_of_block e2]; rfl
  have b1 : E.cell? ⟨w.heap.size + 1, 1, none⟩ = some (.int .i64 vn) := by rw [cell_of_block e2]; rfl
  have b2 : E.cell? ⟨w.heap.size + 1, 2, none⟩ = some (.float .f64 vf) := by rw [cell_of_block e2]; rfl
  have b3 : E.cell? ⟨w.heap.size + 1, 3, none⟩ = some (.string vs) := by rw [cell_of_block e2]; rfl
  have HB3 : Hid (OpAt (w.heap.size + 1 + 1) zeroO E) := e3
  clear e1 e2 e3 t3 s2 h12 tE
  show Calls _ _ #[_, _, _, _, .agg #[.int .i64 vk, .int .i64 vn, .float .f64 vf, .string vs]] _ _
  go_enter Try.func15, Try.ntmps15
  go_upto_region 1 with fail
  rw [← hE.out]
  clear hE
  refine wp_region_lit ?_
  iterate 7 (refine wpList_plain rfl fun K hK => ?_; go_simp; refine hK _ _ ?_; clear hK K)
  refine wpList_store_mid rfl 41 (.tmp 10) (.tmp 17) rfl (w.heap.size + 1 + 1) 0 (setO clock stamp pc pk ky ⟨vk, vn, vf, vs⟩).vals rfl rfl (HB3.out.there 0 22 (by decide)) (by kernel_rfl) (by kernel_rfl) ?_
  simp only [Act.put]
  obtain ⟨W2, hW2⟩ : ∃ W2, Hid (W2 = E.setCells (w.heap.size + 1 + 1) 0 (setO clock stamp pc pk ky ⟨vk, vn, vf, vs⟩).vals.toList) := ⟨_, Eq.refl _⟩
  have HT2 : Hid (Touch (fun _ => False) w W2) := by rw [hW2.out]; exact HTE.out.stores (by omega) 0 _
  have HB2 : Hid (OpAt (w.heap.size + 1 + 1) (setO clock stamp pc pk ky ⟨vk, vn, vf, vs⟩) W2) := by rw [hW2.out]; exact HB3.out.store0
  rw [← hW2.out]
  clear hW2 HB3 a0 a1 b0 b1 b2 b3
  go_wp2_with fail
  have hLd := run_loadVar_mid (P := Try.prog) W2 (w.heap.size + 1 + 1) 0 41 (setO clock stamp pc pk ky ⟨vk, vn, vf, vs⟩).vals.toList _ (rangeAt_of HB2.out) Try.underlying41 rfl (by kernel_rfl)
  refine bodyPost_ret (v := (setO clock stamp pc pk ky ⟨vk, vn, vf, vs⟩).val) ?_ rfl ⟨rfl, HT2.out⟩
  simp [results, Try.results15, asAddr, hLd]
end Go.Proofs.Ytegldlfbmaapiaa

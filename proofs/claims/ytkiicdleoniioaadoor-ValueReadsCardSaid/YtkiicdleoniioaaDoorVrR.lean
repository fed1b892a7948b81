/- The contract of quireref2.Read. -/
import Derived.Test.YtkiicdleoniioaaDoorRRc
import Derived.Test.YtkiicdleoniioaaDoorPartsF
import Derived.Test.YtkiicdleoniioaaDoorVrM
import Derived.Test.YtkiicdleoniioaaDoorRef2c
import Derived.Deep.DeepCutAuto
namespace Go.Proofs.YtkiicdleoniioaaDoor
open Go.RowKit
set_option linter.unusedVariables false
set_option linter.unusedSimpArgs false
set_option maxRecDepth 100000

/-- What the document's Read leaves. -/
def RVPost (s g : Nat) (rest : List UInt8) (ev : Int) (v : V) (w : World) (e : Ending) (w' : World) : Prop :=
  (ev = 0 ∧ e = .returned v.val ∧ RR w' s g rest 0 ∧ Touch (· = s) w w') ∨ (ev ≠ 0 ∧ e = .returned (V.val V0) ∧ (∃ ds, RR w' s g ds ev) ∧ Touch (· = s) w w')

set_option maxHeartbeats 4000000 in
theorem rv_null (s g : Nat) (bs cs1 : List UInt8) (e1 : Int) (ev C : Int) (w : World) (h : RR w s g bs 0) (hgl : g < w.heap.size) (ho : rdByte bs 0 = (e1, .int .u8 0, cs1)) (hC : refCheck ⟨0, 0, 0, ⟨#[]⟩⟩ = C) (he1 : e1 ≠ 0 → ev = e1) (he2 : e1 = 0 → C ≠ 0 → ev = 11) (he3 : e1 = 0 → C = 0 → ev = 0) :
    Calls Tryd.prog 7 #[.pointer (some ⟨s, 0, none⟩)] w (RVPost s g cs1 ev ⟨0, 0, 0, ⟨#[]⟩⟩ w) := by
  have HS : Hid (s < w.heap.size ∧ g < w.heap.size) := ⟨h.lt, hgl⟩
  have HCk : Hid (∀ w, Calls Tryd.prog 32 #[V.val ⟨0, 0, 0, ⟨#[]⟩⟩] w fun e w' => e = .returned (.int .i64 C) ∧ Touch (fun _ => False) w w') := fun w => by
    have := ref_check ⟨0, 0, 0, ⟨#[]⟩⟩ (Nat.zero_le _) w
    rw [hC] at this
    exact this
  simp only [V.val] at HCk
  have HR0 : Hid (RR (w.alloc (.cells #[.int .i64 0, .int .i64 0, .float .f64 0, .string ⟨#[]⟩] 31)) s g bs 0) := h.keep (S := fun _ => False) ((Touch.refl _ _).alloc _) id (fun _ => id)
  have HO : Hid (rdByte bs 0 = (e1, .int .u8 0, cs1)) := ho
  clear h ho hgl hC
  have hst := run_store_f64 Tryd.prog
  have HE1 : Hid (e1 ≠ 0 → ev = e1) := he1
  have HE2 : Hid (e1 = 0 → C ≠ 0 → ev = 11) := he2
  have HE3 : Hid (e1 = 0 → C = 0 → ev = 0) := he3
  clear he1 he2 he3
  go_enter Tryd.func7, Tryd.ntmps7
  go_wp2_with fail
  refine (refByte_any s g _ 0 _ HR0.out).mono ?_
  rw [HO.out]
  rintro e w1 ⟨rfl, hR1, hT1⟩
  have hS := HS.out
  have hb1 : w1.heap[w.heap.size]? = some (.cells #[.int .i64 0, .int .i64 0, .float .f64 0, .string ⟨#[]⟩] 31) := (hT1.block _ (by simp) (by omega)).trans (heap_alloc_new _ _)
  have HR1 : Hid (RR (w1.alloc (.cells #[.int .i64 0, .int .i64 0, .float .f64 0, .string ⟨#[]⟩] 31)) s g cs1 e1) := hR1.keep (S := fun _ => False) ((Touch.refl _ _).alloc _) id (fun _ => id)
  have HB1 : Hid ((w1.alloc (.cells #[.int .i64 0, .int .i64 0, .float .f64 0, .string ⟨#[]⟩] 31)).heap[w.heap.size]? = some (.cells #[.int .i64 0, .int .i64 0, .float .f64 0, .string ⟨#[]⟩] 31)) := (Below.heap_alloc _ _ _ (lt_of_heap hb1)).trans hb1
  have HT1 : Hid (Touch (· = s) w (w1.alloc (.cells #[.int .i64 0, .int .i64 0, .float .f64 0, .string ⟨#[]⟩] 31))) := ((((Touch.refl _ w).alloc _)).then hT1 (fun _ _ h => h)).alloc _
  have HL1 : Hid ((w1.alloc (.cells #[.int .i64 0, .int .i64 0, .float .f64 0, .string ⟨#[]⟩] 31)).heap[w1.heap.size]? = some (.cells #[.int .i64 0, .int .i64 0, .float .f64 0, .string ⟨#[]⟩] 31)) := heap_alloc_new _ _
  have HN : Hid (s < w1.heap.size ∧ g < w1.heap.size ∧ w.heap.size < w1.heap.size) := by have := hT1.size; simp at this; exact ⟨by omega, by omega, by omega⟩
  obtain ⟨vb, hvb⟩ : ∃ vb, Hid (vb = w1.heap.size) := ⟨_, Eq.refl _⟩
  obtain ⟨wa, hwa⟩ : ∃ wa, Hid (wa = w1.alloc (.cells #[.int .i64 0, .int .i64 0, .float .f64 0, .string ⟨#[]⟩] 31)) := ⟨_, Eq.refl _⟩
  clear hR1 hT1 hb1 HR0 HO hS
  rw [← hwa.out, ← hvb.out] at HL1
  rw [← hwa.out] at HR1 HB1 HT1
  rw [← hvb.out] at HN
  have l0 : wa.cell? ⟨vb, 0, none⟩ = some (.int .i64 0) := by rw [cell_of_block HL1.out]; rfl
  have l1 : wa.cell? ⟨vb, 1, none⟩ = some (.int .i64 0) := by rw [cell_of_block HL1.out]; rfl
  have l2 : wa.cell? ⟨vb, 2, none⟩ = some (.float .f64 0) := by rw [cell_of_block HL1.out]; rfl
  have l3 : wa.cell? ⟨vb, 3, none⟩ = some (.string ⟨#[]⟩) := by rw [cell_of_block HL1.out]; rfl
  obtain ⟨Wt, hWt⟩ : ∃ Wt, Hid (Wt = wa) := ⟨_, Eq.refl _⟩
  have HRes : Hid (Wt.heap[w.heap.size]? = some (.cells #[.int .i64 0, .int .i64 0, .float .f64 0, .string ⟨#[]⟩] 31)) := by rw [hWt.out]; exact HB1.out
  have HV : Hid (Wt.heap[vb]? = some (.cells #[.int .i64 0, .int .i64 0, .float .f64 0, .string ⟨#[]⟩] 31)) := by rw [hWt.out]; exact HL1.out
  have HR : Hid (RR Wt s g cs1 e1) := by rw [hWt.out]; exact HR1.out
  have HTt : Hid (Touch (· = s) w Wt) := by rw [hWt.out]; exact HT1.out
  obtain ⟨x, hxx⟩ : ∃ x, Hid (x = e1) := ⟨_, Eq.refl _⟩
  rw [← hxx.out] at HR HE1 HE2 HE3
  obtain ⟨rest, hrest⟩ : ∃ rest, Hid (rest = cs1) := ⟨_, Eq.refl _⟩
  rw [← hrest.out] at HR ⊢
  go_upto_region 17 with fail
  rw [← hwa.out, ← hvb.out, ← hWt.out]
  clear hWt l0 l1 l2 l3 hwa hvb
  have v0 : Wt.cell? ⟨vb, 0, none⟩ = some (.int .i64 0) := by rw [cell_of_block HV.out]; rfl
  have v1 : Wt.cell? ⟨vb, 1, none⟩ = some (.int .i64 0) := by rw [cell_of_block HV.out]; rfl
  have v2 : Wt.cell? ⟨vb, 2, none⟩ = some (.float .f64 0) := by rw [cell_of_block HV.out]; rfl
  have v3 : Wt.cell? ⟨vb, 3, none⟩ = some (.string ⟨#[]⟩) := by rw [cell_of_block HV.out]; rfl
  have hx1 : Wt.cell? ⟨s, 1, none⟩ = some (.int .i64 x) := by
    obtain ⟨_, _, hp, _⟩ := HR.out
    rw [cell_of_block hp]; rfl
  by_cases hx : x = 0
  case neg =>
    have hz : (x == 0) = false := by simpa using hx
    have HX := HE1.out hx
    have r0 : Wt.cell? ⟨w.heap.size, 0, none⟩ = some (.int .i64 0) := by rw [cell_of_block HRes.out]; rfl
    have r1 : Wt.cell? ⟨w.heap.size, 1, none⟩ = some (.int .i64 0) := by rw [cell_of_block HRes.out]; rfl
    have r2 : Wt.cell? ⟨w.heap.size, 2, none⟩ = some (.float .f64 0) := by rw [cell_of_block HRes.out]; rfl
    have r3 : Wt.cell? ⟨w.heap.size, 3, none⟩ = some (.string ⟨#[]⟩) := by rw [cell_of_block HRes.out]; rfl
    have y0 : Wt.frozen? ⟨w.heap.size, 0, none⟩ = false := free_of_block HRes.out
    have y1 : Wt.frozen? ⟨w.heap.size, 1, none⟩ = false := free_of_block HRes.out
    have y2 : Wt.frozen? ⟨w.heap.size, 2, none⟩ = false := free_of_block HRes.out
    have y3 : Wt.frozen? ⟨w.heap.size, 3, none⟩ = false := free_of_block HRes.out
    have HF : Hid (((((Wt.setCell ⟨w.heap.size, 0, none⟩ (.int .i64 0)).setCell ⟨w.heap.size, 1, none⟩ (.int .i64 0)).setCell ⟨w.heap.size, 2, none⟩ (.float .f64 0)).setCell ⟨w.heap.size, 3, none⟩ (.string ⟨#[]⟩)).heap[w.heap.size]? = some (.cells #[.int .i64 0, .int .i64 0, .float .f64 0, .string ⟨#[]⟩] 31 (0, 0))) := put4R _ _ _ _ HRes.out
    have HT : Hid (Touch (· = s) w ((((Wt.setCell ⟨w.heap.size, 0, none⟩ (.int .i64 0)).setCell ⟨w.heap.size, 1, none⟩ (.int .i64 0)).setCell ⟨w.heap.size, 2, none⟩ (.float .f64 0)).setCell ⟨w.heap.size, 3, none⟩ (.string ⟨#[]⟩))) := touch4R_new HTt.out _ (Nat.le_refl _) _ _ _ _
    have HRR : Hid (RR ((((Wt.setCell ⟨w.heap.size, 0, none⟩ (.int .i64 0)).setCell ⟨w.heap.size, 1, none⟩ (.int .i64 0)).setCell ⟨w.heap.size, 2, none⟩ (.float .f64 0)).setCell ⟨w.heap.size, 3, none⟩ (.string ⟨#[]⟩)) s g rest x) := HR.out.keep (touch4R _ _ _ _ _ _) (by have := HS.out; omega) (fun _ => by have := HS.out; omega)
    clear v0 v1 v2 v3
    go_wp2_with fail
    have f0 := cell_of_block (i := 0) HF.out
    have f1 := cell_of_block (i := 1) HF.out
    have f2 := cell_of_block (i := 2) HF.out
    have f3 := cell_of_block (i := 3) HF.out
    refine bodyPost_ret (v := .agg #[.int .i64 0, .int .i64 0, .float .f64 0, .string ⟨#[]⟩]) ?_ rfl (.inr ⟨by rw [HX]; exact hx, rfl, ⟨_, by rw [HX]; exact HRR.out⟩, HT.out⟩)
    simp [results, Tryd.results7, go_sem, f0, f1, f2, f3]
  subst hx
  by_cases hC : C = 0
  case pos =>
    subst hC
    have HX := HE3.out rfl rfl
    go_wp2_with fail
    refine (HCk.out _).mono ?_
    rintro e Wc ⟨rfl, hTc⟩
    have hres := (hTc.block _ (lt_of_heap HRes.out) id).trans HRes.out
    have hv := (hTc.block _ (lt_of_heap HV.out) id).trans HV.out
    have hr := HR.out.keep hTc id (fun _ => id)
    have ht : Touch (· = s) w Wc := HTt.out.then hTc (fun _ _ h => h.elim)
    have hx2 : Wc.cell? ⟨s, 1, none⟩ = some (.int .i64 0) := by
      obtain ⟨_, _, hp, _⟩ := hr
      rw [cell_of_block hp]; rfl
    have u0 : Wc.cell? ⟨vb, 0, none⟩ = some (.int .i64 0) := by rw [cell_of_block hv]; rfl
    have u1 : Wc.cell? ⟨vb, 1, none⟩ = some (.int .i64 0) := by rw [cell_of_block hv]; rfl
    have u2 : Wc.cell? ⟨vb, 2, none⟩ = some (.float .f64 0) := by rw [cell_of_block hv]; rfl
    have u3 : Wc.cell? ⟨vb, 3, none⟩ = some (.string ⟨#[]⟩) := by rw [cell_of_block hv]; rfl
    have r0 : Wc.cell? ⟨w.heap.size, 0, none⟩ = some (.int .i64 0) := by rw [cell_of_block hres]; rfl
    have r1 : Wc.cell? ⟨w.heap.size, 1, none⟩ = some (.int .i64 0) := by rw [cell_of_block hres]; rfl
    have r2 : Wc.cell? ⟨w.heap.size, 2, none⟩ = some (.float .f64 0) := by rw [cell_of_block hres]; rfl
    have r3 : Wc.cell? ⟨w.heap.size, 3, none⟩ = some (.string ⟨#[]⟩) := by rw [cell_of_block hres]; rfl
    have y0 : Wc.frozen? ⟨w.heap.size, 0, none⟩ = false := free_of_block hres
    have y1 : Wc.frozen? ⟨w.heap.size, 1, none⟩ = false := free_of_block hres
    have y2 : Wc.frozen? ⟨w.heap.size, 2, none⟩ = false := free_of_block hres
    have y3 : Wc.frozen? ⟨w.heap.size, 3, none⟩ = false := free_of_block hres
    have HF : Hid (((((Wc.setCell ⟨w.heap.size, 0, none⟩ (.int .i64 0)).setCell ⟨w.heap.size, 1, none⟩ (.int .i64 0)).setCell ⟨w.heap.size, 2, none⟩ (.float .f64 0)).setCell ⟨w.heap.size, 3, none⟩ (.string ⟨#[]⟩)).heap[w.heap.size]? = some (.cells #[.int .i64 0, .int .i64 0, .float .f64 0, .string ⟨#[]⟩] 31 (0, 0))) := put4R _ _ _ _ hres
    have HT : Hid (Touch (· = s) w ((((Wc.setCell ⟨w.heap.size, 0, none⟩ (.int .i64 0)).setCell ⟨w.heap.size, 1, none⟩ (.int .i64 0)).setCell ⟨w.heap.size, 2, none⟩ (.float .f64 0)).setCell ⟨w.heap.size, 3, none⟩ (.string ⟨#[]⟩))) := touch4R_new ht _ (Nat.le_refl _) _ _ _ _
    have HRR : Hid (RR ((((Wc.setCell ⟨w.heap.size, 0, none⟩ (.int .i64 0)).setCell ⟨w.heap.size, 1, none⟩ (.int .i64 0)).setCell ⟨w.heap.size, 2, none⟩ (.float .f64 0)).setCell ⟨w.heap.size, 3, none⟩ (.string ⟨#[]⟩)) s g rest 0) := hr.keep (touch4R _ _ _ _ _ _) (by have := HS.out; omega) (fun _ => by have := HS.out; omega)
    clear v0 v1 v2 v3 hres hv hr ht hTc
    go_wp2_with fail
    have f0 := cell_of_block (i := 0) HF.out
    have f1 := cell_of_block (i := 1) HF.out
    have f2 := cell_of_block (i := 2) HF.out
    have f3 := cell_of_block (i := 3) HF.out
    refine bodyPost_ret (v := .agg #[.int .i64 0, .int .i64 0, .float .f64 0, .string ⟨#[]⟩]) ?_ rfl (.inl ⟨HX, rfl, by rw [← hrest.out]; exact HRR.out, HT.out⟩)
    simp [results, Tryd.results7, go_sem, f0, f1, f2, f3]
  case neg =>
    have hz : (C == 0) = false := by simpa using hC
    have HX := HE2.out rfl hC
    go_wp2_with fail
    refine (HCk.out _).mono ?_
    rintro e Wc ⟨rfl, hTc⟩
    have hres := (hTc.block _ (lt_of_heap HRes.out) id).trans HRes.out
    have hr := HR.out.keep hTc id (fun _ => id)
    have HR2 : Hid (RR Wc s g rest 0) := hr
    have HRes2 : Hid (Wc.heap[w.heap.size]? = some (.cells #[.int .i64 0, .int .i64 0, .float .f64 0, .string ⟨#[]⟩] 31)) := hres
    have HTc : Hid (Touch (· = s) w Wc) := HTt.out.then hTc (fun _ _ h => h.elim)
    have hx2 : Wc.cell? ⟨s, 1, none⟩ = some (.int .i64 0) := by
      obtain ⟨_, _, hp, _⟩ := hr
      rw [cell_of_block hp]; rfl
    clear v0 v1 v2 v3 hres hr hTc
    go_wp2_with fail
    refine (refFail_full s g rest 0 _ HR2.out 11).mono ?_
    rintro e Wf ⟨rfl, hr, hTf⟩
    have hres := (hTf.block _ (lt_of_heap HRes2.out) (by have := HS.out; omega)).trans HRes2.out
    have ht : Touch (· = s) w Wf := HTc.out.trans hTf
    rw [if_pos rfl] at hr
    have hx3 : Wf.cell? ⟨s, 1, none⟩ = some (.int .i64 11) := by
      obtain ⟨_, _, hp, _⟩ := hr
      rw [cell_of_block hp]; rfl
    have r0 : Wf.cell? ⟨w.heap.size, 0, none⟩ = some (.int .i64 0) := by rw [cell_of_block hres]; rfl
    have r1 : Wf.cell? ⟨w.heap.size, 1, none⟩ = some (.int .i64 0) := by rw [cell_of_block hres]; rfl
    have r2 : Wf.cell? ⟨w.heap.size, 2, none⟩ = some (.float .f64 0) := by rw [cell_of_block hres]; rfl
    have r3 : Wf.cell? ⟨w.heap.size, 3, none⟩ = some (.string ⟨#[]⟩) := by rw [cell_of_block hres]; rfl
    have y0 : Wf.frozen? ⟨w.heap.size, 0, none⟩ = false := free_of_block hres
    have y1 : Wf.frozen? ⟨w.heap.size, 1, none⟩ = false := free_of_block hres
    have y2 : Wf.frozen? ⟨w.heap.size, 2, none⟩ = false := free_of_block hres
    have y3 : Wf.frozen? ⟨w.heap.size, 3, none⟩ = false := free_of_block hres
    have HF : Hid (((((Wf.setCell ⟨w.heap.size, 0, none⟩ (.int .i64 0)).setCell ⟨w.heap.size, 1, none⟩ (.int .i64 0)).setCell ⟨w.heap.size, 2, none⟩ (.float .f64 0)).setCell ⟨w.heap.size, 3, none⟩ (.string ⟨#[]⟩)).heap[w.heap.size]? = some (.cells #[.int .i64 0, .int .i64 0, .float .f64 0, .string ⟨#[]⟩] 31 (0, 0))) := put4R _ _ _ _ hres
    have HT : Hid (Touch (· = s) w ((((Wf.setCell ⟨w.heap.size, 0, none⟩ (.int .i64 0)).setCell ⟨w.heap.size, 1, none⟩ (.int .i64 0)).setCell ⟨w.heap.size, 2, none⟩ (.float .f64 0)).setCell ⟨w.heap.size, 3, none⟩ (.string ⟨#[]⟩))) := touch4R_new ht _ (Nat.le_refl _) _ _ _ _
    have HRR : Hid (RR ((((Wf.setCell ⟨w.heap.size, 0, none⟩ (.int .i64 0)).setCell ⟨w.heap.size, 1, none⟩ (.int .i64 0)).setCell ⟨w.heap.size, 2, none⟩ (.float .f64 0)).setCell ⟨w.heap.size, 3, none⟩ (.string ⟨#[]⟩)) s g rest 11) := hr.keep (touch4R _ _ _ _ _ _) (by have := HS.out; omega) (fun _ => by have := HS.out; omega)
    clear hres hr ht hTf HR2 HRes2 HTc
    go_wp2_with fail
    have f0 := cell_of_block (i := 0) HF.out
    have f1 := cell_of_block (i := 1) HF.out
    have f2 := cell_of_block (i := 2) HF.out
    have f3 := cell_of_block (i := 3) HF.out
    refine bodyPost_ret (v := .agg #[.int .i64 0, .int .i64 0, .float .f64 0, .string ⟨#[]⟩]) ?_ rfl (.inr ⟨by rw [HX]; decide, rfl, ⟨_, by rw [HX]; exact HRR.out⟩, HT.out⟩)
    simp [results, Tryd.results7, go_sem, f0, f1, f2, f3]

set_option maxHeartbeats 4000000 in
theorem rv_map (s g : Nat) (bs cs1 : List UInt8) (e1 : Int) (ev C : Int) (w : World) (h : RR w s g bs 0) (hgl : g < w.heap.size) (ho : rdByte bs 0 = (e1, .int .u8 5, cs1)) (hC : refCheck ⟨5, 0, 0, ⟨#[]⟩⟩ = C) (he1 : e1 ≠ 0 → ev = e1) (he2 : e1 = 0 → C ≠ 0 → ev = 11) (he3 : e1 = 0 → C = 0 → ev = 0) :
    Calls Tryd.prog 7 #[.pointer (some ⟨s, 0, none⟩)] w (RVPost s g cs1 ev ⟨5, 0, 0, ⟨#[]⟩⟩ w) := by
  have HS : Hid (s < w.heap.size ∧ g < w.heap.size) := ⟨h.lt, hgl⟩
  have HCk : Hid (∀ w, Calls Tryd.prog 32 #[V.val ⟨5, 0, 0, ⟨#[]⟩⟩] w fun e w' => e = .returned (.int .i64 C) ∧ Touch (fun _ => False) w w') := fun w => by
    have := ref_check ⟨5, 0, 0, ⟨#[]⟩⟩ (Nat.zero_le _) w
    rw [hC] at this
    exact this
  simp only [V.val] at HCk
  have HR0 : Hid (RR (w.alloc (.cells #[.int .i64 0, .int .i64 0, .float .f64 0, .string ⟨#[]⟩] 31)) s g bs 0) := h.keep (S := fun _ => False) ((Touch.refl _ _).alloc _) id (fun _ => id)
  have HO : Hid (rdByte bs 0 = (e1, .int .u8 5, cs1)) := ho
  clear h ho hgl hC
  have hst := run_store_f64 Tryd.prog
  have HE1 : Hid (e1 ≠ 0 → ev = e1) := he1
  have HE2 : Hid (e1 = 0 → C ≠ 0 → ev = 11) := he2
  have HE3 : Hid (e1 = 0 → C = 0 → ev = 0) := he3
  clear he1 he2 he3
  go_enter Tryd.func7, Tryd.ntmps7
  go_wp2_with fail
  refine (refByte_any s g _ 0 _ HR0.out).mono ?_
  rw [HO.out]
  rintro e w1 ⟨rfl, hR1, hT1⟩
  have hS := HS.out
  have hb1 : w1.heap[w.heap.size]? = some (.cells #[.int .i64 0, .int .i64 0, .float .f64 0, .string ⟨#[]⟩] 31) := (hT1.block _ (by simp) (by omega)).trans (heap_alloc_new _ _)
  have HR1 : Hid (RR (w1.alloc (.cells #[.int .i64 5, .int .i64 0, .float .f64 0, .string ⟨#[]⟩] 31)) s g cs1 e1) := hR1.keep (S := fun _ => False) ((Touch.refl _ _).alloc _) id (fun _ => id)
  have HB1 : Hid ((w1.alloc (.cells #[.int .i64 5, .int .i64 0, .float .f64 0, .string ⟨#[]⟩] 31)).heap[w.heap.size]? = some (.cells #[.int .i64 0, .int .i64 0, .float .f64 0, .string ⟨#[]⟩] 31)) := (Below.heap_alloc _ _ _ (lt_of_heap hb1)).trans hb1
  have HT1 : Hid (Touch (· = s) w (w1.alloc (.cells #[.int .i64 5, .int .i64 0, .float .f64 0, .string ⟨#[]⟩] 31))) := ((((Touch.refl _ w).alloc _)).then hT1 (fun _ _ h => h)).alloc _
  have HL1 : Hid ((w1.alloc (.cells #[.int .i64 5, .int .i64 0, .float .f64 0, .string ⟨#[]⟩] 31)).heap[w1.heap.size]? = some (.cells #[.int .i64 5, .int .i64 0, .float .f64 0, .string ⟨#[]⟩] 31)) := heap_alloc_new _ _
  have HN : Hid (s < w1.heap.size ∧ g < w1.heap.size ∧ w.heap.size < w1.heap.size) := by have := hT1.size; simp at this; exact ⟨by omega, by omega, by omega⟩
  obtain ⟨vb, hvb⟩ : ∃ vb, Hid (vb = w1.heap.size) := ⟨_, Eq.refl _⟩
  obtain ⟨wa, hwa⟩ : ∃ wa, Hid (wa = w1.alloc (.cells #[.int .i64 5, .int .i64 0, .float .f64 0, .string ⟨#[]⟩] 31)) := ⟨_, Eq.refl _⟩
  clear hR1 hT1 hb1 HR0 HO hS
  rw [← hwa.out, ← hvb.out] at HL1
  rw [← hwa.out] at HR1 HB1 HT1
  rw [← hvb.out] at HN
  have l0 : wa.cell? ⟨vb, 0, none⟩ = some (.int .i64 5) := by rw [cell_of_block HL1.out]; rfl
  have l1 : wa.cell? ⟨vb, 1, none⟩ = some (.int .i64 0) := by rw [cell_of_block HL1.out]; rfl
  have l2 : wa.cell? ⟨vb, 2, none⟩ = some (.float .f64 0) := by rw [cell_of_block HL1.out]; rfl
  have l3 : wa.cell? ⟨vb, 3, none⟩ = some (.string ⟨#[]⟩) := by rw [cell_of_block HL1.out]; rfl
  obtain ⟨Wt, hWt⟩ : ∃ Wt, Hid (Wt = wa) := ⟨_, Eq.refl _⟩
  have HRes : Hid (Wt.heap[w.heap.size]? = some (.cells #[.int .i64 0, .int .i64 0, .float .f64 0, .string ⟨#[]⟩] 31)) := by rw [hWt.out]; exact HB1.out
  have HV : Hid (Wt.heap[vb]? = some (.cells #[.int .i64 5, .int .i64 0, .float .f64 0, .string ⟨#[]⟩] 31)) := by rw [hWt.out]; exact HL1.out
  have HR : Hid (RR Wt s g cs1 e1) := by rw [hWt.out]; exact HR1.out
  have HTt : Hid (Touch (· = s) w Wt) := by rw [hWt.out]; exact HT1.out
  obtain ⟨x, hxx⟩ : ∃ x, Hid (x = e1) := ⟨_, Eq.refl _⟩
  rw [← hxx.out] at HR HE1 HE2 HE3
  obtain ⟨rest, hrest⟩ : ∃ rest, Hid (rest = cs1) := ⟨_, Eq.refl _⟩
  rw [← hrest.out] at HR ⊢
  go_upto_region 17 with fail
  rw [← hwa.out, ← hvb.out, ← hWt.out]
  clear hWt l0 l1 l2 l3 hwa hvb
  have v0 : Wt.cell? ⟨vb, 0, none⟩ = some (.int .i64 5) := by rw [cell_of_block HV.out]; rfl
  have v1 : Wt.cell? ⟨vb, 1, none⟩ = some (.int .i64 0) := by rw [cell_of_block HV.out]; rfl
  have v2 : Wt.cell? ⟨vb, 2, none⟩ = some (.float .f64 0) := by rw [cell_of_block HV.out]; rfl
  have v3 : Wt.cell? ⟨vb, 3, none⟩ = some (.string ⟨#[]⟩) := by rw [cell_of_block HV.out]; rfl
  have hx1 : Wt.cell? ⟨s, 1, none⟩ = some (.int .i64 x) := by
    obtain ⟨_, _, hp, _⟩ := HR.out
    rw [cell_of_block hp]; rfl
  by_cases hx : x = 0
  case neg =>
    have hz : (x == 0) = false := by simpa using hx
    have HX := HE1.out hx
    have r0 : Wt.cell? ⟨w.heap.size, 0, none⟩ = some (.int .i64 0) := by rw [cell_of_block HRes.out]; rfl
    have r1 : Wt.cell? ⟨w.heap.size, 1, none⟩ = some (.int .i64 0) := by rw [cell_of_block HRes.out]; rfl
    have r2 : Wt.cell? ⟨w.heap.size, 2, none⟩ = some (.float .f64 0) := by rw [cell_of_block HRes.out]; rfl
    have r3 : Wt.cell? ⟨w.heap.size, 3, none⟩ = some (.string ⟨#[]⟩) := by rw [cell_of_block HRes.out]; rfl
    have y0 : Wt.frozen? ⟨w.heap.size, 0, none⟩ = false := free_of_block HRes.out
    have y1 : Wt.frozen? ⟨w.heap.size, 1, none⟩ = false := free_of_block HRes.out
    have y2 : Wt.frozen? ⟨w.heap.size, 2, none⟩ = false := free_of_block HRes.out
    have y3 : Wt.frozen? ⟨w.heap.size, 3, none⟩ = false := free_of_block HRes.out
    have HF : Hid (((((Wt.setCell ⟨w.heap.size, 0, none⟩ (.int .i64 0)).setCell ⟨w.heap.size, 1, none⟩ (.int .i64 0)).setCell ⟨w.heap.size, 2, none⟩ (.float .f64 0)).setCell ⟨w.heap.size, 3, none⟩ (.string ⟨#[]⟩)).heap[w.heap.size]? = some (.cells #[.int .i64 0, .int .i64 0, .float .f64 0, .string ⟨#[]⟩] 31 (0, 0))) := put4R _ _ _ _ HRes.out
    have HT : Hid (Touch (· = s) w ((((Wt.setCell ⟨w.heap.size, 0, none⟩ (.int .i64 0)).setCell ⟨w.heap.size, 1, none⟩ (.int .i64 0)).setCell ⟨w.heap.size, 2, none⟩ (.float .f64 0)).setCell ⟨w.heap.size, 3, none⟩ (.string ⟨#[]⟩))) := touch4R_new HTt.out _ (Nat.le_refl _) _ _ _ _
    have HRR : Hid (RR ((((Wt.setCell ⟨w.heap.size, 0, none⟩ (.int .i64 0)).setCell ⟨w.heap.size, 1, none⟩ (.int .i64 0)).setCell ⟨w.heap.size, 2, none⟩ (.float .f64 0)).setCell ⟨w.heap.size, 3, none⟩ (.string ⟨#[]⟩)) s g rest x) := HR.out.keep (touch4R _ _ _ _ _ _) (by have := HS.out; omega) (fun _ => by have := HS.out; omega)
    clear v0 v1 v2 v3
    go_wp2_with fail
    have f0 := cell_of_block (i := 0) HF.out
    have f1 := cell_of_block (i := 1) HF.out
    have f2 := cell_of_block (i := 2) HF.out
    have f3 := cell_of_block (i := 3) HF.out
    refine bodyPost_ret (v := .agg #[.int .i64 0, .int .i64 0, .float .f64 0, .string ⟨#[]⟩]) ?_ rfl (.inr ⟨by rw [HX]; exact hx, rfl, ⟨_, by rw [HX]; exact HRR.out⟩, HT.out⟩)
    simp [results, Tryd.results7, go_sem, f0, f1, f2, f3]
  subst hx
  by_cases hC : C = 0
  case pos =>
    subst hC
    have HX := HE3.out rfl rfl
    go_wp2_with fail
    refine (HCk.out _).mono ?_
    rintro e Wc ⟨rfl, hTc⟩
    have hres := (hTc.block _ (lt_of_heap HRes.out) id).trans HRes.out
    have hv := (hTc.block _ (lt_of_heap HV.out) id).trans HV.out
    have hr := HR.out.keep hTc id (fun _ => id)
    have ht : Touch (· = s) w Wc := HTt.out.then hTc (fun _ _ h => h.elim)
    have hx2 : Wc.cell? ⟨s, 1, none⟩ = some (.int .i64 0) := by
      obtain ⟨_, _, hp, _⟩ := hr
      rw [cell_of_block hp]; rfl
    have u0 : Wc.cell? ⟨vb, 0, none⟩ = some (.int .i64 5) := by rw [cell_of_block hv]; rfl
    have u1 : Wc.cell? ⟨vb, 1, none⟩ = some (.int .i64 0) := by rw [cell_of_block hv]; rfl
    have u2 : Wc.cell? ⟨vb, 2, none⟩ = some (.float .f64 0) := by rw [cell_of_block hv]; rfl
    have u3 : Wc.cell? ⟨vb, 3, none⟩ = some (.string ⟨#[]⟩) := by rw [cell_of_block hv]; rfl
    have r0 : Wc.cell? ⟨w.heap.size, 0, none⟩ = some (.int .i64 0) := by rw [cell_of_block hres]; rfl
    have r1 : Wc.cell? ⟨w.heap.size, 1, none⟩ = some (.int .i64 0) := by rw [cell_of_block hres]; rfl
    have r2 : Wc.cell? ⟨w.heap.size, 2, none⟩ = some (.float .f64 0) := by rw [cell_of_block hres]; rfl
    have r3 : Wc.cell? ⟨w.heap.size, 3, none⟩ = some (.string ⟨#[]⟩) := by rw [cell_of_block hres]; rfl
    have y0 : Wc.frozen? ⟨w.heap.size, 0, none⟩ = false := free_of_block hres
    have y1 : Wc.frozen? ⟨w.heap.size, 1, none⟩ = false := free_of_block hres
    have y2 : Wc.frozen? ⟨w.heap.size, 2, none⟩ = false := free_of_block hres
    have y3 : Wc.frozen? ⟨w.heap.size, 3, none⟩ = false := free_of_block hres
    have HF : Hid (((((Wc.setCell ⟨w.heap.size, 0, none⟩ (.int .i64 5)).setCell ⟨w.heap.size, 1, none⟩ (.int .i64 0)).setCell ⟨w.heap.size, 2, none⟩ (.float .f64 0)).setCell ⟨w.heap.size, 3, none⟩ (.string ⟨#[]⟩)).heap[w.heap.size]? = some (.cells #[.int .i64 5, .int .i64 0, .float .f64 0, .string ⟨#[]⟩] 31 (0, 0))) := put4R _ _ _ _ hres
    have HT : Hid (Touch (· = s) w ((((Wc.setCell ⟨w.heap.size, 0, none⟩ (.int .i64 5)).setCell ⟨w.heap.size, 1, none⟩ (.int .i64 0)).setCell ⟨w.heap.size, 2, none⟩ (.float .f64 0)).setCell ⟨w.heap.size, 3, none⟩ (.string ⟨#[]⟩))) := touch4R_new ht _ (Nat.le_refl _) _ _ _ _
    have HRR : Hid (RR ((((Wc.setCell ⟨w.heap.size, 0, none⟩ (.int .i64 5)).setCell ⟨w.heap.size, 1, none⟩ (.int .i64 0)).setCell ⟨w.heap.size, 2, none⟩ (.float .f64 0)).setCell ⟨w.heap.size, 3, none⟩ (.string ⟨#[]⟩)) s g rest 0) := hr.keep (touch4R _ _ _ _ _ _) (by have := HS.out; omega) (fun _ => by have := HS.out; omega)
    clear v0 v1 v2 v3 hres hv hr ht hTc
    go_wp2_with fail
    have f0 := cell_of_block (i := 0) HF.out
    have f1 := cell_of_block (i := 1) HF.out
    have f2 := cell_of_block (i := 2) HF.out
    have f3 := cell_of_block (i := 3) HF.out
    refine bodyPost_ret (v := .agg #[.int .i64 5, .int .i64 0, .float .f64 0, .string ⟨#[]⟩]) ?_ rfl (.inl ⟨HX, rfl, by rw [← hrest.out]; exact HRR.out, HT.out⟩)
    simp [results, Tryd.results7, go_sem, f0, f1, f2, f3]
  case neg =>
    have hz : (C == 0) = false := by simpa using hC
    have HX := HE2.out rfl hC
    go_wp2_with fail
    refine (HCk.out _).mono ?_
    rintro e Wc ⟨rfl, hTc⟩
    have hres := (hTc.block _ (lt_of_heap HRes.out) id).trans HRes.out
    have hr := HR.out.keep hTc id (fun _ => id)
    have HR2 : Hid (RR Wc s g rest 0) := hr
    have HRes2 : Hid (Wc.heap[w.heap.size]? = some (.cells #[.int .i64 0, .int .i64 0, .float .f64 0, .string ⟨#[]⟩] 31)) := hres
    have HTc : Hid (Touch (· = s) w Wc) := HTt.out.then hTc (fun _ _ h => h.elim)
    have hx2 : Wc.cell? ⟨s, 1, none⟩ = some (.int .i64 0) := by
      obtain ⟨_, _, hp, _⟩ := hr
      rw [cell_of_block hp]; rfl
    clear v0 v1 v2 v3 hres hr hTc
    go_wp2_with fail
    refine (refFail_full s g rest 0 _ HR2.out 11).mono ?_
    rintro e Wf ⟨rfl, hr, hTf⟩
    have hres := (hTf.block _ (lt_of_heap HRes2.out) (by have := HS.out; omega)).trans HRes2.out
    have ht : Touch (· = s) w Wf := HTc.out.trans hTf
    rw [if_pos rfl] at hr
    have hx3 : Wf.cell? ⟨s, 1, none⟩ = some (.int .i64 11) := by
      obtain ⟨_, _, hp, _⟩ := hr
      rw [cell_of_block hp]; rfl
    have r0 : Wf.cell? ⟨w.heap.size, 0, none⟩ = some (.int .i64 0) := by rw [cell_of_block hres]; rfl
    have r1 : Wf.cell? ⟨w.heap.size, 1, none⟩ = some (.int .i64 0) := by rw [cell_of_block hres]; rfl
    have r2 : Wf.cell? ⟨w.heap.size, 2, none⟩ = some (.float .f64 0) := by rw [cell_of_block hres]; rfl
    have r3 : Wf.cell? ⟨w.heap.size, 3, none⟩ = some (.string ⟨#[]⟩) := by rw [cell_of_block hres]; rfl
    have y0 : Wf.frozen? ⟨w.heap.size, 0, none⟩ = false := free_of_block hres
    have y1 : Wf.frozen? ⟨w.heap.size, 1, none⟩ = false := free_of_block hres
    have y2 : Wf.frozen? ⟨w.heap.size, 2, none⟩ = false := free_of_block hres
    have y3 : Wf.frozen? ⟨w.heap.size, 3, none⟩ = false := free_of_block hres
    have HF : Hid (((((Wf.setCell ⟨w.heap.size, 0, none⟩ (.int .i64 0)).setCell ⟨w.heap.size, 1, none⟩ (.int .i64 0)).setCell ⟨w.heap.size, 2, none⟩ (.float .f64 0)).setCell ⟨w.heap.size, 3, none⟩ (.string ⟨#[]⟩)).heap[w.heap.size]? = some (.cells #[.int .i64 0, .int .i64 0, .float .f64 0, .string ⟨#[]⟩] 31 (0, 0))) := put4R _ _ _ _ hres
    have HT : Hid (Touch (· = s) w ((((Wf.setCell ⟨w.heap.size, 0, none⟩ (.int .i64 0)).setCell ⟨w.heap.size, 1, none⟩ (.int .i64 0)).setCell ⟨w.heap.size, 2, none⟩ (.float .f64 0)).setCell ⟨w.heap.size, 3, none⟩ (.string ⟨#[]⟩))) := touch4R_new ht _ (Nat.le_refl _) _ _ _ _
    have HRR : Hid (RR ((((Wf.setCell ⟨w.heap.size, 0, none⟩ (.int .i64 0)).setCell ⟨w.heap.size, 1, none⟩ (.int .i64 0)).setCell ⟨w.heap.size, 2, none⟩ (.float .f64 0)).setCell ⟨w.heap.size, 3, none⟩ (.string ⟨#[]⟩)) s g rest 11) := hr.keep (touch4R _ _ _ _ _ _) (by have := HS.out; omega) (fun _ => by have := HS.out; omega)
    clear hres hr ht hTf HR2 HRes2 HTc
    go_wp2_with fail
    have f0 := cell_of_block (i := 0) HF.out
    have f1 := cell_of_block (i := 1) HF.out
    have f2 := cell_of_block (i := 2) HF.out
    have f3 := cell_of_block (i := 3) HF.out
    refine bodyPost_ret (v := .agg #[.int .i64 0, .int .i64 0, .float .f64 0, .string ⟨#[]⟩]) ?_ rfl (.inr ⟨by rw [HX]; decide, rfl, ⟨_, by rw [HX]; exact HRR.out⟩, HT.out⟩)
    simp [results, Tryd.results7, go_sem, f0, f1, f2, f3]

set_option maxHeartbeats 4000000 in
theorem rv_bool (s g : Nat) (bs cs1 : List UInt8) (e1 : Int) (cs2 : List UInt8) (e2 : Int) (n : Nat) (hn : n < 256) (ev C : Int) (w : World) (h : RR w s g bs 0) (hgl : g < w.heap.size) (ho2 : rdByte cs1 e1 = (e2, .int .u8 n, cs2)) (ho : rdByte bs 0 = (e1, .int .u8 1, cs1)) (hC : refCheck ⟨1, n, 0, ⟨#[]⟩⟩ = C) (he1 : e2 ≠ 0 → ev = e2) (he2 : e2 = 0 → C ≠ 0 → ev = 11) (he3 : e2 = 0 → C = 0 → ev = 0) :
    Calls Tryd.prog 7 #[.pointer (some ⟨s, 0, none⟩)] w (RVPost s g cs2 ev ⟨1, n, 0, ⟨#[]⟩⟩ w) := by
  have HS : Hid (s < w.heap.size ∧ g < w.heap.size) := ⟨h.lt, hgl⟩
  have HCk : Hid (∀ w, Calls Tryd.prog 32 #[V.val ⟨1, n, 0, ⟨#[]⟩⟩] w fun e w' => e = .returned (.int .i64 C) ∧ Touch (fun _ => False) w w') := fun w => by
    have := ref_check ⟨1, n, 0, ⟨#[]⟩⟩ (Nat.zero_le _) w
    rw [hC] at this
    exact this
  simp only [V.val] at HCk
  have HR0 : Hid (RR (w.alloc (.cells #[.int .i64 0, .int .i64 0, .float .f64 0, .string ⟨#[]⟩] 31)) s g bs 0) := h.keep (S := fun _ => False) ((Touch.refl _ _).alloc _) id (fun _ => id)
  have HO : Hid (rdByte bs 0 = (e1, .int .u8 1, cs1)) := ho
  have HO2 : Hid (rdByte cs1 e1 = (e2, .int .u8 n, cs2)) := ho2
  clear h ho hgl hC ho2
  have hst := run_store_f64 Tryd.prog
  have HE1 : Hid (e2 ≠ 0 → ev = e2) := he1
  have HE2 : Hid (e2 = 0 → C ≠ 0 → ev = 11) := he2
  have HE3 : Hid (e2 = 0 → C = 0 → ev = 0) := he3
  clear he1 he2 he3
  go_enter Tryd.func7, Tryd.ntmps7
  go_wp2_with fail
  refine (refByte_any s g _ 0 _ HR0.out).mono ?_
  rw [HO.out]
  rintro e w1 ⟨rfl, hR1, hT1⟩
  have hS := HS.out
  have hb1 : w1.heap[w.heap.size]? = some (.cells #[.int .i64 0, .int .i64 0, .float .f64 0, .string ⟨#[]⟩] 31) := (hT1.block _ (by simp) (by omega)).trans (heap_alloc_new _ _)
  have HR1 : Hid (RR (w1.alloc (.cells #[.int .i64 1, .int .i64 0, .float .f64 0, .string ⟨#[]⟩] 31)) s g cs1 e1) := hR1.keep (S := fun _ => False) ((Touch.refl _ _).alloc _) id (fun _ => id)
  have HB1 : Hid ((w1.alloc (.cells #[.int .i64 1, .int .i64 0, .float .f64 0, .string ⟨#[]⟩] 31)).heap[w.heap.size]? = some (.cells #[.int .i64 0, .int .i64 0, .float .f64 0, .string ⟨#[]⟩] 31)) := (Below.heap_alloc _ _ _ (lt_of_heap hb1)).trans hb1
  have HT1 : Hid (Touch (· = s) w (w1.alloc (.cells #[.int .i64 1, .int .i64 0, .float .f64 0, .string ⟨#[]⟩] 31))) := ((((Touch.refl _ w).alloc _)).then hT1 (fun _ _ h => h)).alloc _
  have HL1 : Hid ((w1.alloc (.cells #[.int .i64 1, .int .i64 0, .float .f64 0, .string ⟨#[]⟩] 31)).heap[w1.heap.size]? = some (.cells #[.int .i64 1, .int .i64 0, .float .f64 0, .string ⟨#[]⟩] 31)) := heap_alloc_new _ _
  have HN : Hid (s < w1.heap.size ∧ g < w1.heap.size ∧ w.heap.size < w1.heap.size) := by have := hT1.size; simp at this; exact ⟨by omega, by omega, by omega⟩
  obtain ⟨vb, hvb⟩ : ∃ vb, Hid (vb = w1.heap.size) := ⟨_, Eq.refl _⟩
  obtain ⟨wa, hwa⟩ : ∃ wa, Hid (wa = w1.alloc (.cells #[.int .i64 1, .int .i64 0, .float .f64 0, .string ⟨#[]⟩] 31)) := ⟨_, Eq.refl _⟩
  clear hR1 hT1 hb1 HR0 HO hS
  rw [← hwa.out, ← hvb.out] at HL1
  rw [← hwa.out] at HR1 HB1 HT1
  rw [← hvb.out] at HN
  have l0 : wa.cell? ⟨vb, 0, none⟩ = some (.int .i64 1) := by rw [cell_of_block HL1.out]; rfl
  have l1 : wa.cell? ⟨vb, 1, none⟩ = some (.int .i64 0) := by rw [cell_of_block HL1.out]; rfl
  have l2 : wa.cell? ⟨vb, 2, none⟩ = some (.float .f64 0) := by rw [cell_of_block HL1.out]; rfl
  have l3 : wa.cell? ⟨vb, 3, none⟩ = some (.string ⟨#[]⟩) := by rw [cell_of_block HL1.out]; rfl
  go_wp2_with fail
  rw [← hwa.out, ← hvb.out]
  refine (refByte_any s g _ e1 _ HR1.out).mono ?_
  rw [HO2.out]
  rintro e w2 ⟨rfl, hR2, hT2⟩
  have hS := HS.out
  have hn := HN.out
  have hb2 := (hT2.block _ (lt_of_heap HB1.out) (by omega)).trans HB1.out
  have hl2 := (hT2.block _ (lt_of_heap HL1.out) (by omega)).trans HL1.out
  have m0 : w2.cell? ⟨vb, 0, none⟩ = some (.int .i64 1) := by rw [cell_of_block hl2]; rfl
  have m1 : w2.cell? ⟨vb, 1, none⟩ = some (.int .i64 0) := by rw [cell_of_block hl2]; rfl
  have m2 : w2.cell? ⟨vb, 2, none⟩ = some (.float .f64 0) := by rw [cell_of_block hl2]; rfl
  have m3 : w2.cell? ⟨vb, 3, none⟩ = some (.string ⟨#[]⟩) := by rw [cell_of_block hl2]; rfl
  have zm : w2.frozen? ⟨vb, 1, none⟩ = false := free_of_block hl2
  have TV : Touch (· = vb) w2 (w2.setCell ⟨vb, 1, none⟩ (.int .i64 n)) := (Touch.refl _ _).setCell ⟨vb, 1, none⟩ _ (fun _ => rfl)
  obtain ⟨Wt, hWt⟩ : ∃ Wt, Hid (Wt = w2.setCell ⟨vb, 1, none⟩ (.int .i64 n)) := ⟨_, Eq.refl _⟩
  have HRes : Hid (Wt.heap[w.heap.size]? = some (.cells #[.int .i64 0, .int .i64 0, .float .f64 0, .string ⟨#[]⟩] 31)) := by rw [hWt.out]; exact ((TV.block _ (lt_of_heap hb2) (by omega)).trans hb2)
  have HV : Hid (Wt.heap[vb]? = some (.cells #[.int .i64 1, .int .i64 n, .float .f64 0, .string ⟨#[]⟩] 31)) := by rw [hWt.out]; exact (by rw [heap_setCell_same _ _ _ _ hl2]; rfl)
  have HR : Hid (RR Wt s g cs2 e2) := by rw [hWt.out]; exact (hR2.keep TV (by omega) (fun _ => by omega))
  have HTt : Hid (Touch (· = s) w Wt) := by rw [hWt.out]; exact ((HT1.out.trans hT2).then TV (fun k hk e => by omega))
  clear hb2 hl2 hR2 hT2 TV hn hS HR1 HB1 HT1 HL1
  obtain ⟨x, hxx⟩ : ∃ x, Hid (x = e2) := ⟨_, Eq.refl _⟩
  rw [← hxx.out] at HR HE1 HE2 HE3
  obtain ⟨rest, hrest⟩ : ∃ rest, Hid (rest = cs2) := ⟨_, Eq.refl _⟩
  rw [← hrest.out] at HR ⊢
  go_upto_region 17 with fail
  rw [← hWt.out]
  clear hWt m0 m1 m2 m3 zm l0 l1 l2 l3 hwa hvb
  have v0 : Wt.cell? ⟨vb, 0, none⟩ = some (.int .i64 1) := by rw [cell_of_block HV.out]; rfl
  have v1 : Wt.cell? ⟨vb, 1, none⟩ = some (.int .i64 n) := by rw [cell_of_block HV.out]; rfl
  have v2 : Wt.cell? ⟨vb, 2, none⟩ = some (.float .f64 0) := by rw [cell_of_block HV.out]; rfl
  have v3 : Wt.cell? ⟨vb, 3, none⟩ = some (.string ⟨#[]⟩) := by rw [cell_of_block HV.out]; rfl
  have hx1 : Wt.cell? ⟨s, 1, none⟩ = some (.int .i64 x) := by
    obtain ⟨_, _, hp, _⟩ := HR.out
    rw [cell_of_block hp]; rfl
  by_cases hx : x = 0
  case neg =>
    have hz : (x == 0) = false := by simpa using hx
    have HX := HE1.out hx
    have r0 : Wt.cell? ⟨w.heap.size, 0, none⟩ = some (.int .i64 0) := by rw [cell_of_block HRes.out]; rfl
    have r1 : Wt.cell? ⟨w.heap.size, 1, none⟩ = some (.int .i64 0) := by rw [cell_of_block HRes.out]; rfl
    have r2 : Wt.cell? ⟨w.heap.size, 2, none⟩ = some (.float .f64 0) := by rw [cell_of_block HRes.out]; rfl
    have r3 : Wt.cell? ⟨w.heap.size, 3, none⟩ = some (.string ⟨#[]⟩) := by rw [cell_of_block HRes.out]; rfl
    have y0 : Wt.frozen? ⟨w.heap.size, 0, none⟩ = false := free_of_block HRes.out
    have y1 : Wt.frozen? ⟨w.heap.size, 1, none⟩ = false := free_of_block HRes.out
    have y2 : Wt.frozen? ⟨w.heap.size, 2, none⟩ = false := free_of_block HRes.out
    have y3 : Wt.frozen? ⟨w.heap.size, 3, none⟩ = false := free_of_block HRes.out
    have HF : Hid (((((Wt.setCell ⟨w.heap.size, 0, none⟩ (.int .i64 0)).setCell ⟨w.heap.size, 1, none⟩ (.int .i64 0)).setCell ⟨w.heap.size, 2, none⟩ (.float .f64 0)).setCell ⟨w.heap.size, 3, none⟩ (.string ⟨#[]⟩)).heap[w.heap.size]? = some (.cells #[.int .i64 0, .int .i64 0, .float .f64 0, .string ⟨#[]⟩] 31 (0, 0))) := put4R _ _ _ _ HRes.out
    have HT : Hid (Touch (· = s) w ((((Wt.setCell ⟨w.heap.size, 0, none⟩ (.int .i64 0)).setCell ⟨w.heap.size, 1, none⟩ (.int .i64 0)).setCell ⟨w.heap.size, 2, none⟩ (.float .f64 0)).setCell ⟨w.heap.size, 3, none⟩ (.string ⟨#[]⟩))) := touch4R_new HTt.out _ (Nat.le_refl _) _ _ _ _
    have HRR : Hid (RR ((((Wt.setCell ⟨w.heap.size, 0, none⟩ (.int .i64 0)).setCell ⟨w.heap.size, 1, none⟩ (.int .i64 0)).setCell ⟨w.heap.size, 2, none⟩ (.float .f64 0)).setCell ⟨w.heap.size, 3, none⟩ (.string ⟨#[]⟩)) s g rest x) := HR.out.keep (touch4R _ _ _ _ _ _) (by have := HS.out; omega) (fun _ => by have := HS.out; omega)
    clear v0 v1 v2 v3
    go_wp2_with fail
    have f0 := cell_of_block (i := 0) HF.out
    have f1 := cell_of_block (i := 1) HF.out
    have f2 := cell_of_block (i := 2) HF.out
    have f3 := cell_of_block (i := 3) HF.out
    refine bodyPost_ret (v := .agg #[.int .i64 0, .int .i64 0, .float .f64 0, .string ⟨#[]⟩]) ?_ rfl (.inr ⟨by rw [HX]; exact hx, rfl, ⟨_, by rw [HX]; exact HRR.out⟩, HT.out⟩)
    simp [results, Tryd.results7, go_sem, f0, f1, f2, f3]
  subst hx
  by_cases hC : C = 0
  case pos =>
    subst hC
    have HX := HE3.out rfl rfl
    go_wp2_with fail
    refine (HCk.out _).mono ?_
    rintro e Wc ⟨rfl, hTc⟩
    have hres := (hTc.block _ (lt_of_heap HRes.out) id).trans HRes.out
    have hv := (hTc.block _ (lt_of_heap HV.out) id).trans HV.out
    have hr := HR.out.keep hTc id (fun _ => id)
    have ht : Touch (· = s) w Wc := HTt.out.then hTc (fun _ _ h => h.elim)
    have hx2 : Wc.cell? ⟨s, 1, none⟩ = some (.int .i64 0) := by
      obtain ⟨_, _, hp, _⟩ := hr
      rw [cell_of_block hp]; rfl
    have u0 : Wc.cell? ⟨vb, 0, none⟩ = some (.int .i64 1) := by rw [cell_of_block hv]; rfl
    have u1 : Wc.cell? ⟨vb, 1, none⟩ = some (.int .i64 n) := by rw [cell_of_block hv]; rfl
    have u2 : Wc.cell? ⟨vb, 2, none⟩ = some (.float .f64 0) := by rw [cell_of_block hv]; rfl
    have u3 : Wc.cell? ⟨vb, 3, none⟩ = some (.string ⟨#[]⟩) := by rw [cell_of_block hv]; rfl
    have r0 : Wc.cell? ⟨w.heap.size, 0, none⟩ = some (.int .i64 0) := by rw [cell_of_block hres]; rfl
    have r1 : Wc.cell? ⟨w.heap.size, 1, none⟩ = some (.int .i64 0) := by rw [cell_of_block hres]; rfl
    have r2 : Wc.cell? ⟨w.heap.size, 2, none⟩ = some (.float .f64 0) := by rw [cell_of_block hres]; rfl
    have r3 : Wc.cell? ⟨w.heap.size, 3, none⟩ = some (.string ⟨#[]⟩) := by rw [cell_of_block hres]; rfl
    have y0 : Wc.frozen? ⟨w.heap.size, 0, none⟩ = false := free_of_block hres
    have y1 : Wc.frozen? ⟨w.heap.size, 1, none⟩ = false := free_of_block hres
    have y2 : Wc.frozen? ⟨w.heap.size, 2, none⟩ = false := free_of_block hres
    have y3 : Wc.frozen? ⟨w.heap.size, 3, none⟩ = false := free_of_block hres
    have HF : Hid (((((Wc.setCell ⟨w.heap.size, 0, none⟩ (.int .i64 1)).setCell ⟨w.heap.size, 1, none⟩ (.int .i64 n)).setCell ⟨w.heap.size, 2, none⟩ (.float .f64 0)).setCell ⟨w.heap.size, 3, none⟩ (.string ⟨#[]⟩)).heap[w.heap.size]? = some (.cells #[.int .i64 1, .int .i64 n, .float .f64 0, .string ⟨#[]⟩] 31 (0, 0))) := put4R _ _ _ _ hres
    have HT : Hid (Touch (· = s) w ((((Wc.setCell ⟨w.heap.size, 0, none⟩ (.int .i64 1)).setCell ⟨w.heap.size, 1, none⟩ (.int .i64 n)).setCell ⟨w.heap.size, 2, none⟩ (.float .f64 0)).setCell ⟨w.heap.size, 3, none⟩ (.string ⟨#[]⟩))) := touch4R_new ht _ (Nat.le_refl _) _ _ _ _
    have HRR : Hid (RR ((((Wc.setCell ⟨w.heap.size, 0, none⟩ (.int .i64 1)).setCell ⟨w.heap.size, 1, none⟩ (.int .i64 n)).setCell ⟨w.heap.size, 2, none⟩ (.float .f64 0)).setCell ⟨w.heap.size, 3, none⟩ (.string ⟨#[]⟩)) s g rest 0) := hr.keep (touch4R _ _ _ _ _ _) (by have := HS.out; omega) (fun _ => by have := HS.out; omega)
    clear v0 v1 v2 v3 hres hv hr ht hTc
    go_wp2_with fail
    have f0 := cell_of_block (i := 0) HF.out
    have f1 := cell_of_block (i := 1) HF.out
    have f2 := cell_of_block (i := 2) HF.out
    have f3 := cell_of_block (i := 3) HF.out
    refine bodyPost_ret (v := .agg #[.int .i64 1, .int .i64 n, .float .f64 0, .string ⟨#[]⟩]) ?_ rfl (.inl ⟨HX, rfl, by rw [← hrest.out]; exact HRR.out, HT.out⟩)
    simp [results, Tryd.results7, go_sem, f0, f1, f2, f3]
  case neg =>
    have hz : (C == 0) = false := by simpa using hC
    have HX := HE2.out rfl hC
    go_wp2_with fail
    refine (HCk.out _).mono ?_
    rintro e Wc ⟨rfl, hTc⟩
    have hres := (hTc.block _ (lt_of_heap HRes.out) id).trans HRes.out
    have hr := HR.out.keep hTc id (fun _ => id)
    have HR2 : Hid (RR Wc s g rest 0) := hr
    have HRes2 : Hid (Wc.heap[w.heap.size]? = some (.cells #[.int .i64 0, .int .i64 0, .float .f64 0, .string ⟨#[]⟩] 31)) := hres
    have HTc : Hid (Touch (· = s) w Wc) := HTt.out.then hTc (fun _ _ h => h.elim)
    have hx2 : Wc.cell? ⟨s, 1, none⟩ = some (.int .i64 0) := by
      obtain ⟨_, _, hp, _⟩ := hr
      rw [cell_of_block hp]; rfl
    clear v0 v1 v2 v3 hres hr hTc
    go_wp2_with fail
    refine (refFail_full s g rest 0 _ HR2.out 11).mono ?_
    rintro e Wf ⟨rfl, hr, hTf⟩
    have hres := (hTf.block _ (lt_of_heap HRes2.out) (by have := HS.out; omega)).trans HRes2.out
    have ht : Touch (· = s) w Wf := HTc.out.trans hTf
    rw [if_pos rfl] at hr
    have hx3 : Wf.cell? ⟨s, 1, none⟩ = some (.int .i64 11) := by
      obtain ⟨_, _, hp, _⟩ := hr
      rw [cell_of_block hp]; rfl
    have r0 : Wf.cell? ⟨w.heap.size, 0, none⟩ = some (.int .i64 0) := by rw [cell_of_block hres]; rfl
    have r1 : Wf.cell? ⟨w.heap.size, 1, none⟩ = some (.int .i64 0) := by rw [cell_of_block hres]; rfl
    have r2 : Wf.cell? ⟨w.heap.size, 2, none⟩ = some (.float .f64 0) := by rw [cell_of_block hres]; rfl
    have r3 : Wf.cell? ⟨w.heap.size, 3, none⟩ = some (.string ⟨#[]⟩) := by rw [cell_of_block hres]; rfl
    have y0 : Wf.frozen? ⟨w.heap.size, 0, none⟩ = false := free_of_block hres
    have y1 : Wf.frozen? ⟨w.heap.size, 1, none⟩ = false := free_of_block hres
    have y2 : Wf.frozen? ⟨w.heap.size, 2, none⟩ = false := free_of_block hres
    have y3 : Wf.frozen? ⟨w.heap.size, 3, none⟩ = false := free_of_block hres
    have HF : Hid (((((Wf.setCell ⟨w.heap.size, 0, none⟩ (.int .i64 0)).setCell ⟨w.heap.size, 1, none⟩ (.int .i64 0)).setCell ⟨w.heap.size, 2, none⟩ (.float .f64 0)).setCell ⟨w.heap.size, 3, none⟩ (.string ⟨#[]⟩)).heap[w.heap.size]? = some (.cells #[.int .i64 0, .int .i64 0, .float .f64 0, .string ⟨#[]⟩] 31 (0, 0))) := put4R _ _ _ _ hres
    have HT : Hid (Touch (· = s) w ((((Wf.setCell ⟨w.heap.size, 0, none⟩ (.int .i64 0)).setCell ⟨w.heap.size, 1, none⟩ (.int .i64 0)).setCell ⟨w.heap.size, 2, none⟩ (.float .f64 0)).setCell ⟨w.heap.size, 3, none⟩ (.string ⟨#[]⟩))) := touch4R_new ht _ (Nat.le_refl _) _ _ _ _
    have HRR : Hid (RR ((((Wf.setCell ⟨w.heap.size, 0, none⟩ (.int .i64 0)).setCell ⟨w.heap.size, 1, none⟩ (.int .i64 0)).setCell ⟨w.heap.size, 2, none⟩ (.float .f64 0)).setCell ⟨w.heap.size, 3, none⟩ (.string ⟨#[]⟩)) s g rest 11) := hr.keep (touch4R _ _ _ _ _ _) (by have := HS.out; omega) (fun _ => by have := HS.out; omega)
    clear hres hr ht hTf HR2 HRes2 HTc
    go_wp2_with fail
    have f0 := cell_of_block (i := 0) HF.out
    have f1 := cell_of_block (i := 1) HF.out
    have f2 := cell_of_block (i := 2) HF.out
    have f3 := cell_of_block (i := 3) HF.out
    refine bodyPost_ret (v := .agg #[.int .i64 0, .int .i64 0, .float .f64 0, .string ⟨#[]⟩]) ?_ rfl (.inr ⟨by rw [HX]; decide, rfl, ⟨_, by rw [HX]; exact HRR.out⟩, HT.out⟩)
    simp [results, Tryd.results7, go_sem, f0, f1, f2, f3]

set_option maxHeartbeats 4000000 in
theorem rv_int (s g : Nat) (bs cs1 : List UInt8) (e1 : Int) (cs2 : List UInt8) (e2 : Int) (n : Int) (ev C : Int) (w : World) (h : RR w s g bs 0) (hgl : g < w.heap.size) (ho2 : rdInt cs1 e1 = (e2, .int .i64 n, cs2)) (ho : rdByte bs 0 = (e1, .int .u8 2, cs1)) (hC : refCheck ⟨2, n, 0, ⟨#[]⟩⟩ = C) (he1 : e2 ≠ 0 → ev = e2) (he2 : e2 = 0 → C ≠ 0 → ev = 11) (he3 : e2 = 0 → C = 0 → ev = 0) :
    Calls Tryd.prog 7 #[.pointer (some ⟨s, 0, none⟩)] w (RVPost s g cs2 ev ⟨2, n, 0, ⟨#[]⟩⟩ w) := by
  have HS : Hid (s < w.heap.size ∧ g < w.heap.size) := ⟨h.lt, hgl⟩
  have HCk : Hid (∀ w, Calls Tryd.prog 32 #[V.val ⟨2, n, 0, ⟨#[]⟩⟩] w fun e w' => e = .returned (.int .i64 C) ∧ Touch (fun _ => False) w w') := fun w => by
    have := ref_check ⟨2, n, 0, ⟨#[]⟩⟩ (Nat.zero_le _) w
    rw [hC] at this
    exact this
  simp only [V.val] at HCk
  have HR0 : Hid (RR (w.alloc (.cells #[.int .i64 0, .int .i64 0, .float .f64 0, .string ⟨#[]⟩] 31)) s g bs 0) := h.keep (S := fun _ => False) ((Touch.refl _ _).alloc _) id (fun _ => id)
  have HO : Hid (rdByte bs 0 = (e1, .int .u8 2, cs1)) := ho
  have HO2 : Hid (rdInt cs1 e1 = (e2, .int .i64 n, cs2)) := ho2
  clear h ho hgl hC ho2
  have hst := run_store_f64 Tryd.prog
  have HE1 : Hid (e2 ≠ 0 → ev = e2) := he1
  have HE2 : Hid (e2 = 0 → C ≠ 0 → ev = 11) := he2
  have HE3 : Hid (e2 = 0 → C = 0 → ev = 0) := he3
  clear he1 he2 he3
  go_enter Tryd.func7, Tryd.ntmps7
  go_wp2_with fail
  refine (refByte_any s g _ 0 _ HR0.out).mono ?_
  rw [HO.out]
  rintro e w1 ⟨rfl, hR1, hT1⟩
  have hS := HS.out
  have hb1 : w1.heap[w.heap.size]? = some (.cells #[.int .i64 0, .int .i64 0, .float .f64 0, .string ⟨#[]⟩] 31) := (hT1.block _ (by simp) (by omega)).trans (heap_alloc_new _ _)
  have HR1 : Hid (RR (w1.alloc (.cells #[.int .i64 2, .int .i64 0, .float .f64 0, .string ⟨#[]⟩] 31)) s g cs1 e1) := hR1.keep (S := fun _ => False) ((Touch.refl _ _).alloc _) id (fun _ => id)
  have HB1 : Hid ((w1.alloc (.cells #[.int .i64 2, .int .i64 0, .float .f64 0, .string ⟨#[]⟩] 31)).heap[w.heap.size]? = some (.cells #[.int .i64 0, .int .i64 0, .float .f64 0, .string ⟨#[]⟩] 31)) := (Below.heap_alloc _ _ _ (lt_of_heap hb1)).trans hb1
  have HT1 : Hid (Touch (· = s) w (w1.alloc (.cells #[.int .i64 2, .int .i64 0, .float .f64 0, .string ⟨#[]⟩] 31))) := ((((Touch.refl _ w).alloc _)).then hT1 (fun _ _ h => h)).alloc _
  have HL1 : Hid ((w1.alloc (.cells #[.int .i64 2, .int .i64 0, .float .f64 0, .string ⟨#[]⟩] 31)).heap[w1.heap.size]? = some (.cells #[.int .i64 2, .int .i64 0, .float .f64 0, .string ⟨#[]⟩] 31)) := heap_alloc_new _ _
  have HN : Hid (s < w1.heap.size ∧ g < w1.heap.size ∧ w.heap.size < w1.heap.size) := by have := hT1.size; simp at this; exact ⟨by omega, by omega, by omega⟩
  obtain ⟨vb, hvb⟩ : ∃ vb, Hid (vb = w1.heap.size) := ⟨_, Eq.refl _⟩
  obtain ⟨wa, hwa⟩ : ∃ wa, Hid (wa = w1.alloc (.cells #[.int .i64 2, .int .i64 0, .float .f64 0, .string ⟨#[]⟩] 31)) := ⟨_, Eq.refl _⟩
  clear hR1 hT1 hb1 HR0 HO hS
  rw [← hwa.out, ← hvb.out] at HL1
  rw [← hwa.out] at HR1 HB1 HT1
  rw [← hvb.out] at HN
  have l0 : wa.cell? ⟨vb, 0, none⟩ = some (.int .i64 2) := by rw [cell_of_block HL1.out]; rfl
  have l1 : wa.cell? ⟨vb, 1, none⟩ = some (.int .i64 0) := by rw [cell_of_block HL1.out]; rfl
  have l2 : wa.cell? ⟨vb, 2, none⟩ = some (.float .f64 0) := by rw [cell_of_block HL1.out]; rfl
  have l3 : wa.cell? ⟨vb, 3, none⟩ = some (.string ⟨#[]⟩) := by rw [cell_of_block HL1.out]; rfl
  go_wp2_with fail
  rw [← hwa.out, ← hvb.out]
  refine (refInt_any s g _ e1 _ HR1.out).mono ?_
  rw [HO2.out]
  rintro e w2 ⟨rfl, hR2, hT2⟩
  have hS := HS.out
  have hn := HN.out
  have hb2 := (hT2.block _ (lt_of_heap HB1.out) (by omega)).trans HB1.out
  have hl2 := (hT2.block _ (lt_of_heap HL1.out) (by omega)).trans HL1.out
  have m0 : w2.cell? ⟨vb, 0, none⟩ = some (.int .i64 2) := by rw [cell_of_block hl2]; rfl
  have m1 : w2.cell? ⟨vb, 1, none⟩ = some (.int .i64 0) := by rw [cell_of_block hl2]; rfl
  have m2 : w2.cell? ⟨vb, 2, none⟩ = some (.float .f64 0) := by rw [cell_of_block hl2]; rfl
  have m3 : w2.cell? ⟨vb, 3, none⟩ = some (.string ⟨#[]⟩) := by rw [cell_of_block hl2]; rfl
  have zm : w2.frozen? ⟨vb, 1, none⟩ = false := free_of_block hl2
  have TV : Touch (· = vb) w2 (w2.setCell ⟨vb, 1, none⟩ (.int .i64 n)) := (Touch.refl _ _).setCell ⟨vb, 1, none⟩ _ (fun _ => rfl)
  obtain ⟨Wt, hWt⟩ : ∃ Wt, Hid (Wt = w2.setCell ⟨vb, 1, none⟩ (.int .i64 n)) := ⟨_, Eq.refl _⟩
  have HRes : Hid (Wt.heap[w.heap.size]? = some (.cells #[.int .i64 0, .int .i64 0, .float .f64 0, .string ⟨#[]⟩] 31)) := by rw [hWt.out]; exact ((TV.block _ (lt_of_heap hb2) (by omega)).trans hb2)
  have HV : Hid (Wt.heap[vb]? = some (.cells #[.int .i64 2, .int .i64 n, .float .f64 0, .string ⟨#[]⟩] 31)) := by rw [hWt.out]; exact (by rw [heap_setCell_same _ _ _ _ hl2]; rfl)
  have HR : Hid (RR Wt s g cs2 e2) := by rw [hWt.out]; exact (hR2.keep TV (by omega) (fun _ => by omega))
  have HTt : Hid (Touch (· = s) w Wt) := by rw [hWt.out]; exact ((HT1.out.trans hT2).then TV (fun k hk e => by omega))
  clear hb2 hl2 hR2 hT2 TV hn hS HR1 HB1 HT1 HL1
  obtain ⟨x, hxx⟩ : ∃ x, Hid (x = e2) := ⟨_, Eq.refl _⟩
  rw [← hxx.out] at HR HE1 HE2 HE3
  obtain ⟨rest, hrest⟩ : ∃ rest, Hid (rest = cs2) := ⟨_, Eq.refl _⟩
  rw [← hrest.out] at HR ⊢
  go_upto_region 17 with fail
  rw [← hWt.out]
  clear hWt m0 m1 m2 m3 zm l0 l1 l2 l3 hwa hvb
  have v0 : Wt.cell? ⟨vb, 0, none⟩ = some (.int .i64 2) := by rw [cell_of_block HV.out]; rfl
  have v1 : Wt.cell? ⟨vb, 1, none⟩ = some (.int .i64 n) := by rw [cell_of_block HV.out]; rfl
  have v2 : Wt.cell? ⟨vb, 2, none⟩ = some (.float .f64 0) := by rw [cell_of_block HV.out]; rfl
  have v3 : Wt.cell? ⟨vb, 3, none⟩ = some (.string ⟨#[]⟩) := by rw [cell_of_block HV.out]; rfl
  have hx1 : Wt.cell? ⟨s, 1, none⟩ = some (.int .i64 x) := by
    obtain ⟨_, _, hp, _⟩ := HR.out
    rw [cell_of_block hp]; rfl
  by_cases hx : x = 0
  case neg =>
    have hz : (x == 0) = false := by simpa using hx
    have HX := HE1.out hx
    have r0 : Wt.cell? ⟨w.heap.size, 0, none⟩ = some (.int .i64 0) := by rw [cell_of_block HRes.out]; rfl
    have r1 : Wt.cell? ⟨w.heap.size, 1, none⟩ = some (.int .i64 0) := by rw [cell_of_block HRes.out]; rfl
    have r2 : Wt.cell? ⟨w.heap.size, 2, none⟩ = some (.float .f64 0) := by rw [cell_of_block HRes.out]; rfl
    have r3 : Wt.cell? ⟨w.heap.size, 3, none⟩ = some (.string ⟨#[]⟩) := by rw [cell_of_block HRes.out]; rfl
    have y0 : Wt.frozen? ⟨w.heap.size, 0, none⟩ = false := free_of_block HRes.out
    have y1 : Wt.frozen? ⟨w.heap.size, 1, none⟩ = false := free_of_block HRes.out
    have y2 : Wt.frozen? ⟨w.heap.size, 2, none⟩ = false := free_of_block HRes.out
    have y3 : Wt.frozen? ⟨w.heap.size, 3, none⟩ = false := free_of_block HRes.out
    have HF : Hid (((((Wt.setCell ⟨w.heap.size, 0, none⟩ (.int .i64 0)).setCell ⟨w.heap.size, 1, none⟩ (.int .i64 0)).setCell ⟨w.heap.size, 2, none⟩ (.float .f64 0)).setCell ⟨w.heap.size, 3, none⟩ (.string ⟨#[]⟩)).heap[w.heap.size]? = some (.cells #[.int .i64 0, .int .i64 0, .float .f64 0, .string ⟨#[]⟩] 31 (0, 0))) := put4R _ _ _ _ HRes.out
    have HT : Hid (Touch (· = s) w ((((Wt.setCell ⟨w.heap.size, 0, none⟩ (.int .i64 0)).setCell ⟨w.heap.size, 1, none⟩ (.int .i64 0)).setCell ⟨w.heap.size, 2, none⟩ (.float .f64 0)).setCell ⟨w.heap.size, 3, none⟩ (.string ⟨#[]⟩))) := touch4R_new HTt.out _ (Nat.le_refl _) _ _ _ _
    have HRR : Hid (RR ((((Wt.setCell ⟨w.heap.size, 0, none⟩ (.int .i64 0)).setCell ⟨w.heap.size, 1, none⟩ (.int .i64 0)).setCell ⟨w.heap.size, 2, none⟩ (.float .f64 0)).setCell ⟨w.heap.size, 3, none⟩ (.string ⟨#[]⟩)) s g rest x) := HR.out.keep (touch4R _ _ _ _ _ _) (by have := HS.out; omega) (fun _ => by have := HS.out; omega)
    clear v0 v1 v2 v3
    go_wp2_with fail
    have f0 := cell_of_block (i := 0) HF.out
    have f1 := cell_of_block (i := 1) HF.out
    have f2 := cell_of_block (i := 2) HF.out
    have f3 := cell_of_block (i := 3) HF.out
    refine bodyPost_ret (v := .agg #[.int .i64 0, .int .i64 0, .float .f64 0, .string ⟨#[]⟩]) ?_ rfl (.inr ⟨by rw [HX]; exact hx, rfl, ⟨_, by rw [HX]; exact HRR.out⟩, HT.out⟩)
    simp [results, Tryd.results7, go_sem, f0, f1, f2, f3]
  subst hx
  by_cases hC : C = 0
  case pos =>
    subst hC
    have HX := HE3.out rfl rfl
    go_wp2_with fail
    refine (HCk.out _).mono ?_
    rintro e Wc ⟨rfl, hTc⟩
    have hres := (hTc.block _ (lt_of_heap HRes.out) id).trans HRes.out
    have hv := (hTc.block _ (lt_of_heap HV.out) id).trans HV.out
    have hr := HR.out.keep hTc id (fun _ => id)
    have ht : Touch (· = s) w Wc := HTt.out.then hTc (fun _ _ h => h.elim)
    have hx2 : Wc.cell? ⟨s, 1, none⟩ = some (.int .i64 0) := by
      obtain ⟨_, _, hp, _⟩ := hr
      rw [cell_of_block hp]; rfl
    have u0 : Wc.cell? ⟨vb, 0, none⟩ = some (.int .i64 2) := by rw [cell_of_block hv]; rfl
    have u1 : Wc.cell? ⟨vb, 1, none⟩ = some (.int .i64 n) := by rw [cell_of_block hv]; rfl
    have u2 : Wc.cell? ⟨vb, 2, none⟩ = some (.float .f64 0) := by rw [cell_of_block hv]; rfl
    have u3 : Wc.cell? ⟨vb, 3, none⟩ = some (.string ⟨#[]⟩) := by rw [cell_of_block hv]; rfl
    have r0 : Wc.cell? ⟨w.heap.size, 0, none⟩ = some (.int .i64 0) := by rw [cell_of_block hres]; rfl
    have r1 : Wc.cell? ⟨w.heap.size, 1, none⟩ = some (.int .i64 0) := by rw [cell_of_block hres]; rfl
    have r2 : Wc.cell? ⟨w.heap.size, 2, none⟩ = some (.float .f64 0) := by rw [cell_of_block hres]; rfl
    have r3 : Wc.cell? ⟨w.heap.size, 3, none⟩ = some (.string ⟨#[]⟩) := by rw [cell_of_block hres]; rfl
    have y0 : Wc.frozen? ⟨w.heap.size, 0, none⟩ = false := free_of_block hres
    have y1 : Wc.frozen? ⟨w.heap.size, 1, none⟩ = false := free_of_block hres
    have y2 : Wc.frozen? ⟨w.heap.size, 2, none⟩ = false := free_of_block hres
    have y3 : Wc.frozen? ⟨w.heap.size, 3, none⟩ = false := free_of_block hres
    have HF : Hid (((((Wc.setCell ⟨w.heap.size, 0, none⟩ (.int .i64 2)).setCell ⟨w.heap.size, 1, none⟩ (.int .i64 n)).setCell ⟨w.heap.size, 2, none⟩ (.float .f64 0)).setCell ⟨w.heap.size, 3, none⟩ (.string ⟨#[]⟩)).heap[w.heap.size]? = some (.cells #[.int .i64 2, .int .i64 n, .float .f64 0, .string ⟨#[]⟩] 31 (0, 0))) := put4R _ _ _ _ hres
    have HT : Hid (Touch (· = s) w ((((Wc.setCell ⟨w.heap.size, 0, none⟩ (.int .i64 2)).setCell ⟨w.heap.size, 1, none⟩ (.int .i64 n)).setCell ⟨w.heap.size, 2, none⟩ (.float .f64 0)).setCell ⟨w.heap.size, 3, none⟩ (.string ⟨#[]⟩))) := touch4R_new ht _ (Nat.le_refl _) _ _ _ _
    have HRR : Hid (RR ((((Wc.setCell ⟨w.heap.size, 0, none⟩ (.int .i64 2)).setCell ⟨w.heap.size, 1, none⟩ (.int .i64 n)).setCell ⟨w.heap.size, 2, none⟩ (.float .f64 0)).setCell ⟨w.heap.size, 3, none⟩ (.string ⟨#[]⟩)) s g rest 0) := hr.keep (touch4R _ _ _ _ _ _) (by have := HS.out; omega) (fun _ => by have := HS.out; omega)
    clear v0 v1 v2 v3 hres hv hr ht hTc
    go_wp2_with fail
    have f0 := cell_of_block (i := 0) HF.out
    have f1 := cell_of_block (i := 1) HF.out
    have f2 := cell_of_block (i := 2) HF.out
    have f3 := cell_of_block (i := 3) HF.out
    refine bodyPost_ret (v := .agg #[.int .i64 2, .int .i64 n, .float .f64 0, .string ⟨#[]⟩]) ?_ rfl (.inl ⟨HX, rfl, by rw [← hrest.out]; exact HRR.out, HT.out⟩)
    simp [results, Tryd.results7, go_sem, f0, f1, f2, f3]
  case neg =>
    have hz : (C == 0) = false := by simpa using hC
    have HX := HE2.out rfl hC
    go_wp2_with fail
    refine (HCk.out _).mono ?_
    rintro e Wc ⟨rfl, hTc⟩
    have hres := (hTc.block _ (lt_of_heap HRes.out) id).trans HRes.out
    have hr := HR.out.keep hTc id (fun _ => id)
    have HR2 : Hid (RR Wc s g rest 0) := hr
    have HRes2 : Hid (Wc.heap[w.heap.size]? = some (.cells #[.int .i64 0, .int .i64 0, .float .f64 0, .string ⟨#[]⟩] 31)) := hres
    have HTc : Hid (Touch (· = s) w Wc) := HTt.out.then hTc (fun _ _ h => h.elim)
    have hx2 : Wc.cell? ⟨s, 1, none⟩ = some (.int .i64 0) := by
      obtain ⟨_, _, hp, _⟩ := hr
      rw [cell_of_block hp]; rfl
    clear v0 v1 v2 v3 hres hr hTc
    go_wp2_with fail
    refine (refFail_full s g rest 0 _ HR2.out 11).mono ?_
    rintro e Wf ⟨rfl, hr, hTf⟩
    have hres := (hTf.block _ (lt_of_heap HRes2.out) (by have := HS.out; omega)).trans HRes2.out
    have ht : Touch (· = s) w Wf := HTc.out.trans hTf
    rw [if_pos rfl] at hr
    have hx3 : Wf.cell? ⟨s, 1, none⟩ = some (.int .i64 11) := by
      obtain ⟨_, _, hp, _⟩ := hr
      rw [cell_of_block hp]; rfl
    have r0 : Wf.cell? ⟨w.heap.size, 0, none⟩ = some (.int .i64 0) := by rw [cell_of_block hres]; rfl
    have r1 : Wf.cell? ⟨w.heap.size, 1, none⟩ = some (.int .i64 0) := by rw [cell_of_block hres]; rfl
    have r2 : Wf.cell? ⟨w.heap.size, 2, none⟩ = some (.float .f64 0) := by rw [cell_of_block hres]; rfl
    have r3 : Wf.cell? ⟨w.heap.size, 3, none⟩ = some (.string ⟨#[]⟩) := by rw [cell_of_block hres]; rfl
    have y0 : Wf.frozen? ⟨w.heap.size, 0, none⟩ = false := free_of_block hres
    have y1 : Wf.frozen? ⟨w.heap.size, 1, none⟩ = false := free_of_block hres
    have y2 : Wf.frozen? ⟨w.heap.size, 2, none⟩ = false := free_of_block hres
    have y3 : Wf.frozen? ⟨w.heap.size, 3, none⟩ = false := free_of_block hres
    have HF : Hid (((((Wf.setCell ⟨w.heap.size, 0, none⟩ (.int .i64 0)).setCell ⟨w.heap.size, 1, none⟩ (.int .i64 0)).setCell ⟨w.heap.size, 2, none⟩ (.float .f64 0)).setCell ⟨w.heap.size, 3, none⟩ (.string ⟨#[]⟩)).heap[w.heap.size]? = some (.cells #[.int .i64 0, .int .i64 0, .float .f64 0, .string ⟨#[]⟩] 31 (0, 0))) := put4R _ _ _ _ hres
    have HT : Hid (Touch (· = s) w ((((Wf.setCell ⟨w.heap.size, 0, none⟩ (.int .i64 0)).setCell ⟨w.heap.size, 1, none⟩ (.int .i64 0)).setCell ⟨w.heap.size, 2, none⟩ (.float .f64 0)).setCell ⟨w.heap.size, 3, none⟩ (.string ⟨#[]⟩))) := touch4R_new ht _ (Nat.le_refl _) _ _ _ _
    have HRR : Hid (RR ((((Wf.setCell ⟨w.heap.size, 0, none⟩ (.int .i64 0)).setCell ⟨w.heap.size, 1, none⟩ (.int .i64 0)).setCell ⟨w.heap.size, 2, none⟩ (.float .f64 0)).setCell ⟨w.heap.size, 3, none⟩ (.string ⟨#[]⟩)) s g rest 11) := hr.keep (touch4R _ _ _ _ _ _) (by have := HS.out; omega) (fun _ => by have := HS.out; omega)
    clear hres hr ht hTf HR2 HRes2 HTc
    go_wp2_with fail
    have f0 := cell_of_block (i := 0) HF.out
    have f1 := cell_of_block (i := 1) HF.out
    have f2 := cell_of_block (i := 2) HF.out
    have f3 := cell_of_block (i := 3) HF.out
    refine bodyPost_ret (v := .agg #[.int .i64 0, .int .i64 0, .float .f64 0, .string ⟨#[]⟩]) ?_ rfl (.inr ⟨by rw [HX]; decide, rfl, ⟨_, by rw [HX]; exact HRR.out⟩, HT.out⟩)
    simp [results, Tryd.results7, go_sem, f0, f1, f2, f3]

set_option maxHeartbeats 4000000 in
theorem rv_text (s g : Nat) (bs cs1 : List UInt8) (e1 : Int) (cs2 : List UInt8) (e2 : Int) (t : ByteArray) (ht : t.size ≤ 4096) (ev C : Int) (w : World) (h : RR w s g bs 0) (hgl : g < w.heap.size) (ho2 : rdText cs1 e1 4096 = (e2, .string t, cs2)) (ho : rdByte bs 0 = (e1, .int .u8 4, cs1)) (hC : refCheck ⟨4, 0, 0, t⟩ = C) (he1 : e2 ≠ 0 → ev = e2) (he2 : e2 = 0 → C ≠ 0 → ev = 11) (he3 : e2 = 0 → C = 0 → ev = 0) :
    Calls Tryd.prog 7 #[.pointer (some ⟨s, 0, none⟩)] w (RVPost s g cs2 ev ⟨4, 0, 0, t⟩ w) := by
  have HS : Hid (s < w.heap.size ∧ g < w.heap.size) := ⟨h.lt, hgl⟩
  have HCk : Hid (∀ w, Calls Tryd.prog 32 #[V.val ⟨4, 0, 0, t⟩] w fun e w' => e = .returned (.int .i64 C) ∧ Touch (fun _ => False) w w') := fun w => by
    have := ref_check ⟨4, 0, 0, t⟩ (by simp only; omega) w
    rw [hC] at this
    exact this
  simp only [V.val] at HCk
  have HR0 : Hid (RR (w.alloc (.cells #[.int .i64 0, .int .i64 0, .float .f64 0, .string ⟨#[]⟩] 31)) s g bs 0) := h.keep (S := fun _ => False) ((Touch.refl _ _).alloc _) id (fun _ => id)
  have HO : Hid (rdByte bs 0 = (e1, .int .u8 4, cs1)) := ho
  have HO2 : Hid (rdText cs1 e1 4096 = (e2, .string t, cs2)) := ho2
  clear h ho hgl hC ho2
  have hst := run_store_f64 Tryd.prog
  have HE1 : Hid (e2 ≠ 0 → ev = e2) := he1
  have HE2 : Hid (e2 = 0 → C ≠ 0 → ev = 11) := he2
  have HE3 : Hid (e2 = 0 → C = 0 → ev = 0) := he3
  clear he1 he2 he3
  go_enter Tryd.func7, Tryd.ntmps7
  go_wp2_with fail
  refine (refByte_any s g _ 0 _ HR0.out).mono ?_
  rw [HO.out]
  rintro e w1 ⟨rfl, hR1, hT1⟩
  have hS := HS.out
  have hb1 : w1.heap[w.heap.size]? = some (.cells #[.int .i64 0, .int .i64 0, .float .f64 0, .string ⟨#[]⟩] 31) := (hT1.block _ (by simp) (by omega)).trans (heap_alloc_new _ _)
  have HR1 : Hid (RR (w1.alloc (.cells #[.int .i64 4, .int .i64 0, .float .f64 0, .string ⟨#[]⟩] 31)) s g cs1 e1) := hR1.keep (S := fun _ => False) ((Touch.refl _ _).alloc _) id (fun _ => id)
  have HB1 : Hid ((w1.alloc (.cells #[.int .i64 4, .int .i64 0, .float .f64 0, .string ⟨#[]⟩] 31)).heap[w.heap.size]? = some (.cells #[.int .i64 0, .int .i64 0, .float .f64 0, .string ⟨#[]⟩] 31)) := (Below.heap_alloc _ _ _ (lt_of_heap hb1)).trans hb1
  have HT1 : Hid (Touch (· = s) w (w1.alloc (.cells #[.int .i64 4, .int .i64 0, .float .f64 0, .string ⟨#[]⟩] 31))) := ((((Touch.refl _ w).alloc _)).then hT1 (fun _ _ h => h)).alloc _
  have HL1 : Hid ((w1.alloc (.cells #[.int .i64 4, .int .i64 0, .float .f64 0, .string ⟨#[]⟩] 31)).heap[w1.heap.size]? = some (.cells #[.int .i64 4, .int .i64 0, .float .f64 0, .string ⟨#[]⟩] 31)) := heap_alloc_new _ _
  have HN : Hid (s < w1.heap.size ∧ g < w1.heap.size ∧ w.heap.size < w1.heap.size) := by have := hT1.size; simp at this; exact ⟨by omega, by omega, by omega⟩
  obtain ⟨vb, hvb⟩ : ∃ vb, Hid (vb = w1.heap.size) := ⟨_, Eq.refl _⟩
  obtain ⟨wa, hwa⟩ : ∃ wa, Hid (wa = w1.alloc (.cells #[.int .i64 4, .int .i64 0, .float .f64 0, .string ⟨#[]⟩] 31)) := ⟨_, Eq.refl _⟩
  clear hR1 hT1 hb1 HR0 HO hS
  rw [← hwa.out, ← hvb.out] at HL1
  rw [← hwa.out] at HR1 HB1 HT1
  rw [← hvb.out] at HN
  have l0 : wa.cell? ⟨vb, 0, none⟩ = some (.int .i64 4) := by rw [cell_of_block HL1.out]; rfl
  have l1 : wa.cell? ⟨vb, 1, none⟩ = some (.int .i64 0) := by rw [cell_of_block HL1.out]; rfl
  have l2 : wa.cell? ⟨vb, 2, none⟩ = some (.float .f64 0) := by rw [cell_of_block HL1.out]; rfl
  have l3 : wa.cell? ⟨vb, 3, none⟩ = some (.string ⟨#[]⟩) := by rw [cell_of_block HL1.out]; rfl
  go_wp2_with fail
  rw [← hwa.out, ← hvb.out]
  refine (refText_any s g _ e1 _ HR1.out).mono ?_
  rw [HO2.out]
  rintro e w2 ⟨rfl, hR2, hT2⟩
  have hS := HS.out
  have hn := HN.out
  have hb2 := (hT2.block _ (lt_of_heap HB1.out) (by omega)).trans HB1.out
  have hl2 := (hT2.block _ (lt_of_heap HL1.out) (by omega)).trans HL1.out
  have m0 : w2.cell? ⟨vb, 0, none⟩ = some (.int .i64 4) := by rw [cell_of_block hl2]; rfl
  have m1 : w2.cell? ⟨vb, 1, none⟩ = some (.int .i64 0) := by rw [cell_of_block hl2]; rfl
  have m2 : w2.cell? ⟨vb, 2, none⟩ = some (.float .f64 0) := by rw [cell_of_block hl2]; rfl
  have m3 : w2.cell? ⟨vb, 3, none⟩ = some (.string ⟨#[]⟩) := by rw [cell_of_block hl2]; rfl
  have zm : w2.frozen? ⟨vb, 3, none⟩ = false := free_of_block hl2
  have TV : Touch (· = vb) w2 (w2.setCell ⟨vb, 3, none⟩ (.string t)) := (Touch.refl _ _).setCell ⟨vb, 3, none⟩ _ (fun _ => rfl)
  obtain ⟨Wt, hWt⟩ : ∃ Wt, Hid (Wt = w2.setCell ⟨vb, 3, none⟩ (.string t)) := ⟨_, Eq.refl _⟩
  have HRes : Hid (Wt.heap[w.heap.size]? = some (.cells #[.int .i64 0, .int .i64 0, .float .f64 0, .string ⟨#[]⟩] 31)) := by rw [hWt.out]; exact ((TV.block _ (lt_of_heap hb2) (by omega)).trans hb2)
  have HV : Hid (Wt.heap[vb]? = some (.cells #[.int .i64 4, .int .i64 0, .float .f64 0, .string t] 31)) := by rw [hWt.out]; exact (by rw [heap_setCell_same _ _ _ _ hl2]; rfl)
  have HR : Hid (RR Wt s g cs2 e2) := by rw [hWt.out]; exact (hR2.keep TV (by omega) (fun _ => by omega))
  have HTt : Hid (Touch (· = s) w Wt) := by rw [hWt.out]; exact ((HT1.out.trans hT2).then TV (fun k hk e => by omega))
  clear hb2 hl2 hR2 hT2 TV hn hS HR1 HB1 HT1 HL1
  obtain ⟨x, hxx⟩ : ∃ x, Hid (x = e2) := ⟨_, Eq.refl _⟩
  rw [← hxx.out] at HR HE1 HE2 HE3
  obtain ⟨rest, hrest⟩ : ∃ rest, Hid (rest = cs2) := ⟨_, Eq.refl _⟩
  rw [← hrest.out] at HR ⊢
  go_upto_region 17 with fail
  rw [← hWt.out]
  clear hWt m0 m1 m2 m3 zm l0 l1 l2 l3 hwa hvb
  have v0 : Wt.cell? ⟨vb, 0, none⟩ = some (.int .i64 4) := by rw [cell_of_block HV.out]; rfl
  have v1 : Wt.cell? ⟨vb, 1, none⟩ = some (.int .i64 0) := by rw [cell_of_block HV.out]; rfl
  have v2 : Wt.cell? ⟨vb, 2, none⟩ = some (.float .f64 0) := by rw [cell_of_block HV.out]; rfl
  have v3 : Wt.cell? ⟨vb, 3, none⟩ = some (.string t) := by rw [cell_of_block HV.out]; rfl
  have hx1 : Wt.cell? ⟨s, 1, none⟩ = some (.int .i64 x) := by
    obtain ⟨_, _, hp, _⟩ := HR.out
    rw [cell_of_block hp]; rfl
  by_cases hx : x = 0
  case neg =>
    have hz : (x == 0) = false := by simpa using hx
    have HX := HE1.out hx
    have r0 : Wt.cell? ⟨w.heap.size, 0, none⟩ = some (.int .i64 0) := by rw [cell_of_block HRes.out]; rfl
    have r1 : Wt.cell? ⟨w.heap.size, 1, none⟩ = some (.int .i64 0) := by rw [cell_of_block HRes.out]; rfl
    have r2 : Wt.cell? ⟨w.heap.size, 2, none⟩ = some (.float .f64 0) := by rw [cell_of_block HRes.out]; rfl
    have r3 : Wt.cell? ⟨w.heap.size, 3, none⟩ = some (.string ⟨#[]⟩) := by rw [cell_of_block HRes.out]; rfl
    have y0 : Wt.frozen? ⟨w.heap.size, 0, none⟩ = false := free_of_block HRes.out
    have y1 : Wt.frozen? ⟨w.heap.size, 1, none⟩ = false := free_of_block HRes.out
    have y2 : Wt.frozen? ⟨w.heap.size, 2, none⟩ = false := free_of_block HRes.out
    have y3 : Wt.frozen? ⟨w.heap.size, 3, none⟩ = false := free_of_block HRes.out
    have HF : Hid (((((Wt.setCell ⟨w.heap.size, 0, none⟩ (.int .i64 0)).setCell ⟨w.heap.size, 1, none⟩ (.int .i64 0)).setCell ⟨w.heap.size, 2, none⟩ (.float .f64 0)).setCell ⟨w.heap.size, 3, none⟩ (.string ⟨#[]⟩)).heap[w.heap.size]? = some (.cells #[.int .i64 0, .int .i64 0, .float .f64 0, .string ⟨#[]⟩] 31 (0, 0))) := put4R _ _ _ _ HRes.out
    have HT : Hid (Touch (· = s) w ((((Wt.setCell ⟨w.heap.size, 0, none⟩ (.int .i64 0)).setCell ⟨w.heap.size, 1, none⟩ (.int .i64 0)).setCell ⟨w.heap.size, 2, none⟩ (.float .f64 0)).setCell ⟨w.heap.size, 3, none⟩ (.string ⟨#[]⟩))) := touch4R_new HTt.out _ (Nat.le_refl _) _ _ _ _
    have HRR : Hid (RR ((((Wt.setCell ⟨w.heap.size, 0, none⟩ (.int .i64 0)).setCell ⟨w.heap.size, 1, none⟩ (.int .i64 0)).setCell ⟨w.heap.size, 2, none⟩ (.float .f64 0)).setCell ⟨w.heap.size, 3, none⟩ (.string ⟨#[]⟩)) s g rest x) := HR.out.keep (touch4R _ _ _ _ _ _) (by have := HS.out; omega) (fun _ => by have := HS.out; omega)
    clear v0 v1 v2 v3
    go_wp2_with fail
    have f0 := cell_of_block (i := 0) HF.out
    have f1 := cell_of_block (i := 1) HF.out
    have f2 := cell_of_block (i := 2) HF.out
    have f3 := cell_of_block (i := 3) HF.out
    refine bodyPost_ret (v := .agg #[.int .i64 0, .int .i64 0, .float .f64 0, .string ⟨#[]⟩]) ?_ rfl (.inr ⟨by rw [HX]; exact hx, rfl, ⟨_, by rw [HX]; exact HRR.out⟩, HT.out⟩)
    simp [results, Tryd.results7, go_sem, f0, f1, f2, f3]
  subst hx
  by_cases hC : C = 0
  case pos =>
    subst hC
    have HX := HE3.out rfl rfl
    go_wp2_with fail
    refine (HCk.out _).mono ?_
    rintro e Wc ⟨rfl, hTc⟩
    have hres := (hTc.block _ (lt_of_heap HRes.out) id).trans HRes.out
    have hv := (hTc.block _ (lt_of_heap HV.out) id).trans HV.out
    have hr := HR.out.keep hTc id (fun _ => id)
    have ht : Touch (· = s) w Wc := HTt.out.then hTc (fun _ _ h => h.elim)
    have hx2 : Wc.cell? ⟨s, 1, none⟩ = some (.int .i64 0) := by
      obtain ⟨_, _, hp, _⟩ := hr
      rw [cell_of_block hp]; rfl
    have u0 : Wc.cell? ⟨vb, 0, none⟩ = some (.int .i64 4) := by rw [cell_of_block hv]; rfl
    have u1 : Wc.cell? ⟨vb, 1, none⟩ = some (.int .i64 0) := by rw [cell_of_block hv]; rfl
    have u2 : Wc.cell? ⟨vb, 2, none⟩ = some (.float .f64 0) := by rw [cell_of_block hv]; rfl
    have u3 : Wc.cell? ⟨vb, 3, none⟩ = some (.string t) := by rw [cell_of_block hv]; rfl
    have r0 : Wc.cell? ⟨w.heap.size, 0, none⟩ = some (.int .i64 0) := by rw [cell_of_block hres]; rfl
    have r1 : Wc.cell? ⟨w.heap.size, 1, none⟩ = some (.int .i64 0) := by rw [cell_of_block hres]; rfl
    have r2 : Wc.cell? ⟨w.heap.size, 2, none⟩ = some (.float .f64 0) := by rw [cell_of_block hres]; rfl
    have r3 : Wc.cell? ⟨w.heap.size, 3, none⟩ = some (.string ⟨#[]⟩) := by rw [cell_of_block hres]; rfl
    have y0 : Wc.frozen? ⟨w.heap.size, 0, none⟩ = false := free_of_block hres
    have y1 : Wc.frozen? ⟨w.heap.size, 1, none⟩ = false := free_of_block hres
    have y2 : Wc.frozen? ⟨w.heap.size, 2, none⟩ = false := free_of_block hres
    have y3 : Wc.frozen? ⟨w.heap.size, 3, none⟩ = false := free_of_block hres
    have HF : Hid (((((Wc.setCell ⟨w.heap.size, 0, none⟩ (.int .i64 4)).setCell ⟨w.heap.size, 1, none⟩ (.int .i64 0)).setCell ⟨w.heap.size, 2, none⟩ (.float .f64 0)).setCell ⟨w.heap.size, 3, none⟩ (.string t)).heap[w.heap.size]? = some (.cells #[.int .i64 4, .int .i64 0, .float .f64 0, .string t] 31 (0, 0))) := put4R _ _ _ _ hres
    have HT : Hid (Touch (· = s) w ((((Wc.setCell ⟨w.heap.size, 0, none⟩ (.int .i64 4)).setCell ⟨w.heap.size, 1, none⟩ (.int .i64 0)).setCell ⟨w.heap.size, 2, none⟩ (.float .f64 0)).setCell ⟨w.heap.size, 3, none⟩ (.string t))) := touch4R_new ht _ (Nat.le_refl _) _ _ _ _
    have HRR : Hid (RR ((((Wc.setCell ⟨w.heap.size, 0, none⟩ (.int .i64 4)).setCell ⟨w.heap.size, 1, none⟩ (.int .i64 0)).setCell ⟨w.heap.size, 2, none⟩ (.float .f64 0)).setCell ⟨w.heap.size, 3, none⟩ (.string t)) s g rest 0) := hr.keep (touch4R _ _ _ _ _ _) (by have := HS.out; omega) (fun _ => by have := HS.out; omega)
    clear v0 v1 v2 v3 hres hv hr ht hTc
    go_wp2_with fail
    have f0 := cell_of_block (i := 0) HF.out
    have f1 := cell_of_block (i := 1) HF.out
    have f2 := cell_of_block (i := 2) HF.out
    have f3 := cell_of_block (i := 3) HF.out
    refine bodyPost_ret (v := .agg #[.int .i64 4, .int .i64 0, .float .f64 0, .string t]) ?_ rfl (.inl ⟨HX, rfl, by rw [← hrest.out]; exact HRR.out, HT.out⟩)
    simp [results, Tryd.results7, go_sem, f0, f1, f2, f3]
  case neg =>
    have hz : (C == 0) = false := by simpa using hC
    have HX := HE2.out rfl hC
    go_wp2_with fail
    refine (HCk.out _).mono ?_
    rintro e Wc ⟨rfl, hTc⟩
    have hres := (hTc.block _ (lt_of_heap HRes.out) id).trans HRes.out
    have hr := HR.out.keep hTc id (fun _ => id)
    have HR2 : Hid (RR Wc s g rest 0) := hr
    have HRes2 : Hid (Wc.heap[w.heap.size]? = some (.cells #[.int .i64 0, .int .i64 0, .float .f64 0, .string ⟨#[]⟩] 31)) := hres
    have HTc : Hid (Touch (· = s) w Wc) := HTt.out.then hTc (fun _ _ h => h.elim)
    have hx2 : Wc.cell? ⟨s, 1, none⟩ = some (.int .i64 0) := by
      obtain ⟨_, _, hp, _⟩ := hr
      rw [cell_of_block hp]; rfl
    clear v0 v1 v2 v3 hres hr hTc
    go_wp2_with fail
    refine (refFail_full s g rest 0 _ HR2.out 11).mono ?_
    rintro e Wf ⟨rfl, hr, hTf⟩
    have hres := (hTf.block _ (lt_of_heap HRes2.out) (by have := HS.out; omega)).trans HRes2.out
    have ht : Touch (· = s) w Wf := HTc.out.trans hTf
    rw [if_pos rfl] at hr
    have hx3 : Wf.cell? ⟨s, 1, none⟩ = some (.int .i64 11) := by
      obtain ⟨_, _, hp, _⟩ := hr
      rw [cell_of_block hp]; rfl
    have r0 : Wf.cell? ⟨w.heap.size, 0, none⟩ = some (.int .i64 0) := by rw [cell_of_block hres]; rfl
    have r1 : Wf.cell? ⟨w.heap.size, 1, none⟩ = some (.int .i64 0) := by rw [cell_of_block hres]; rfl
    have r2 : Wf.cell? ⟨w.heap.size, 2, none⟩ = some (.float .f64 0) := by rw [cell_of_block hres]; rfl
    have r3 : Wf.cell? ⟨w.heap.size, 3, none⟩ = some (.string ⟨#[]⟩) := by rw [cell_of_block hres]; rfl
    have y0 : Wf.frozen? ⟨w.heap.size, 0, none⟩ = false := free_of_block hres
    have y1 : Wf.frozen? ⟨w.heap.size, 1, none⟩ = false := free_of_block hres
    have y2 : Wf.frozen? ⟨w.heap.size, 2, none⟩ = false := free_of_block hres
    have y3 : Wf.frozen? ⟨w.heap.size, 3, none⟩ = false := free_of_block hres
    have HF : Hid (((((Wf.setCell ⟨w.heap.size, 0, none⟩ (.int .i64 0)).setCell ⟨w.heap.size, 1, none⟩ (.int .i64 0)).setCell ⟨w.heap.size, 2, none⟩ (.float .f64 0)).setCell ⟨w.heap.size, 3, none⟩ (.string ⟨#[]⟩)).heap[w.heap.size]? = some (.cells #[.int .i64 0, .int .i64 0, .float .f64 0, .string ⟨#[]⟩] 31 (0, 0))) := put4R _ _ _ _ hres
    have HT : Hid (Touch (· = s) w ((((Wf.setCell ⟨w.heap.size, 0, none⟩ (.int .i64 0)).setCell ⟨w.heap.size, 1, none⟩ (.int .i64 0)).setCell ⟨w.heap.size, 2, none⟩ (.float .f64 0)).setCell ⟨w.heap.size, 3, none⟩ (.string ⟨#[]⟩))) := touch4R_new ht _ (Nat.le_refl _) _ _ _ _
    have HRR : Hid (RR ((((Wf.setCell ⟨w.heap.size, 0, none⟩ (.int .i64 0)).setCell ⟨w.heap.size, 1, none⟩ (.int .i64 0)).setCell ⟨w.heap.size, 2, none⟩ (.float .f64 0)).setCell ⟨w.heap.size, 3, none⟩ (.string ⟨#[]⟩)) s g rest 11) := hr.keep (touch4R _ _ _ _ _ _) (by have := HS.out; omega) (fun _ => by have := HS.out; omega)
    clear hres hr ht hTf HR2 HRes2 HTc
    go_wp2_with fail
    have f0 := cell_of_block (i := 0) HF.out
    have f1 := cell_of_block (i := 1) HF.out
    have f2 := cell_of_block (i := 2) HF.out
    have f3 := cell_of_block (i := 3) HF.out
    refine bodyPost_ret (v := .agg #[.int .i64 0, .int .i64 0, .float .f64 0, .string ⟨#[]⟩]) ?_ rfl (.inr ⟨by rw [HX]; decide, rfl, ⟨_, by rw [HX]; exact HRR.out⟩, HT.out⟩)
    simp [results, Tryd.results7, go_sem, f0, f1, f2, f3]

set_option maxHeartbeats 4000000 in
theorem rv_other (s g : Nat) (bs cs1 : List UInt8) (e1 : Int) (k : Nat) (hk : k < 256) (h0 : ((k : Int) == 0) = false) (h1 : ((k : Int) == 1) = false) (h2 : ((k : Int) == 2) = false) (h3 : ((k : Int) == 3) = false) (h4 : ((k : Int) == 4) = false) (h5 : ((k : Int) == 5) = false) (ev C : Int) (w : World) (h : RR w s g bs 0) (hgl : g < w.heap.size) (ho : rdByte bs 0 = (e1, .int .u8 k, cs1)) (hC : refCheck ⟨k, 0, 0, ⟨#[]⟩⟩ = C) (he1 : ev = if e1 = 0 then 11 else e1) :
    Calls Tryd.prog 7 #[.pointer (some ⟨s, 0, none⟩)] w (RVPost s g cs1 ev ⟨k, 0, 0, ⟨#[]⟩⟩ w) := by
  have HS : Hid (s < w.heap.size ∧ g < w.heap.size) := ⟨h.lt, hgl⟩
  have HCk : Hid (∀ w, Calls Tryd.prog 32 #[V.val ⟨k, 0, 0, ⟨#[]⟩⟩] w fun e w' => e = .returned (.int .i64 C) ∧ Touch (fun _ => False) w w') := fun w => by
    have := ref_check ⟨k, 0, 0, ⟨#[]⟩⟩ (Nat.zero_le _) w
    rw [hC] at this
    exact this
  simp only [V.val] at HCk
  have HR0 : Hid (RR (w.alloc (.cells #[.int .i64 0, .int .i64 0, .float .f64 0, .string ⟨#[]⟩] 31)) s g bs 0) := h.keep (S := fun _ => False) ((Touch.refl _ _).alloc _) id (fun _ => id)
  have HO : Hid (rdByte bs 0 = (e1, .int .u8 k, cs1)) := ho
  clear h ho hgl hC
  have hst := run_store_f64 Tryd.prog
  have HEV : Hid (ev = if e1 = 0 then 11 else e1) := he1
  clear he1
  go_enter Tryd.func7, Tryd.ntmps7
  go_wp2_with fail
  refine (refByte_any s g _ 0 _ HR0.out).mono ?_
  rw [HO.out]
  rintro e w1 ⟨rfl, hR1, hT1⟩
  have hS := HS.out
  have hb1 : w1.heap[w.heap.size]? = some (.cells #[.int .i64 0, .int .i64 0, .float .f64 0, .string ⟨#[]⟩] 31) := (hT1.block _ (by simp) (by omega)).trans (heap_alloc_new _ _)
  have HR1 : Hid (RR (w1.alloc (.cells #[.int .i64 k, .int .i64 0, .float .f64 0, .string ⟨#[]⟩] 31)) s g cs1 e1) := hR1.keep (S := fun _ => False) ((Touch.refl _ _).alloc _) id (fun _ => id)
  have HB1 : Hid ((w1.alloc (.cells #[.int .i64 k, .int .i64 0, .float .f64 0, .string ⟨#[]⟩] 31)).heap[w.heap.size]? = some (.cells #[.int .i64 0, .int .i64 0, .float .f64 0, .string ⟨#[]⟩] 31)) := (Below.heap_alloc _ _ _ (lt_of_heap hb1)).trans hb1
  have HT1 : Hid (Touch (· = s) w (w1.alloc (.cells #[.int .i64 k, .int .i64 0, .float .f64 0, .string ⟨#[]⟩] 31))) := ((((Touch.refl _ w).alloc _)).then hT1 (fun _ _ h => h)).alloc _
  have HL1 : Hid ((w1.alloc (.cells #[.int .i64 k, .int .i64 0, .float .f64 0, .string ⟨#[]⟩] 31)).heap[w1.heap.size]? = some (.cells #[.int .i64 k, .int .i64 0, .float .f64 0, .string ⟨#[]⟩] 31)) := heap_alloc_new _ _
  have HN : Hid (s < w1.heap.size ∧ g < w1.heap.size ∧ w.heap.size < w1.heap.size) := by have := hT1.size; simp at this; exact ⟨by omega, by omega, by omega⟩
  obtain ⟨vb, hvb⟩ : ∃ vb, Hid (vb = w1.heap.size) := ⟨_, Eq.refl _⟩
  obtain ⟨wa, hwa⟩ : ∃ wa, Hid (wa = w1.alloc (.cells #[.int .i64 k, .int .i64 0, .float .f64 0, .string ⟨#[]⟩] 31)) := ⟨_, Eq.refl _⟩
  clear hR1 hT1 hb1 HR0 HO hS
  rw [← hwa.out, ← hvb.out] at HL1
  rw [← hwa.out] at HR1 HB1 HT1
  rw [← hvb.out] at HN
  have l0 : wa.cell? ⟨vb, 0, none⟩ = some (.int .i64 k) := by rw [cell_of_block HL1.out]; rfl
  have l1 : wa.cell? ⟨vb, 1, none⟩ = some (.int .i64 0) := by rw [cell_of_block HL1.out]; rfl
  have l2 : wa.cell? ⟨vb, 2, none⟩ = some (.float .f64 0) := by rw [cell_of_block HL1.out]; rfl
  have l3 : wa.cell? ⟨vb, 3, none⟩ = some (.string ⟨#[]⟩) := by rw [cell_of_block HL1.out]; rfl
  go_wp2_with fail
  rw [← hwa.out]
  refine (refFail_full s g cs1 e1 _ HR1.out 11).mono ?_
  rintro e w2 ⟨rfl, hR2, hT2⟩
  have hS := HS.out
  have hn := HN.out
  have hb2 := (hT2.block _ (lt_of_heap HB1.out) (by omega)).trans HB1.out
  have hl2 := (hT2.block _ (lt_of_heap HL1.out) (by omega)).trans HL1.out
  obtain ⟨Wt, hWt⟩ : ∃ Wt, Hid (Wt = w2) := ⟨_, Eq.refl _⟩
  have HRes : Hid (Wt.heap[w.heap.size]? = some (.cells #[.int .i64 0, .int .i64 0, .float .f64 0, .string ⟨#[]⟩] 31)) := by rw [hWt.out]; exact hb2
  have HV : Hid (Wt.heap[vb]? = some (.cells #[.int .i64 k, .int .i64 0, .float .f64 0, .string ⟨#[]⟩] 31)) := by rw [hWt.out]; exact hl2
  have HR : Hid (RR Wt s g cs1 (if e1 = 0 then 11 else e1)) := by rw [hWt.out]; exact hR2
  have HTt : Hid (Touch (· = s) w Wt) := by rw [hWt.out]; exact (HT1.out.trans hT2)
  clear hb2 hl2 hR2 hT2 hn hS HR1 HB1 HT1 HL1
  obtain ⟨x, hxx⟩ : ∃ x, Hid (x = if e1 = 0 then 11 else e1) := ⟨_, Eq.refl _⟩
  rw [← hxx.out] at HR HEV
  have hxn : x ≠ 0 := by
    rw [hxx.out]
    by_cases h : e1 = 0
    · rw [if_pos h]; decide
    · rw [if_neg h]; exact h
  have HE1 : Hid (x ≠ 0 → ev = x) := fun _ => HEV.out
  have HE2 : Hid (x = 0 → C ≠ 0 → ev = 11) := fun h => absurd h hxn
  have HE3 : Hid (x = 0 → C = 0 → ev = 0) := fun h => absurd h hxn
  clear hxn
  obtain ⟨rest, hrest⟩ : ∃ rest, Hid (rest = cs1) := ⟨_, Eq.refl _⟩
  rw [← hrest.out] at HR
  go_upto_region 17 with fail
  rw [← hvb.out, ← hWt.out]
  clear hWt l0 l1 l2 l3 hwa hvb h0 h1 h2 h3 h4 h5
  have v0 : Wt.cell? ⟨vb, 0, none⟩ = some (.int .i64 k) := by rw [cell_of_block HV.out]; rfl
  have v1 : Wt.cell? ⟨vb, 1, none⟩ = some (.int .i64 0) := by rw [cell_of_block HV.out]; rfl
  have v2 : Wt.cell? ⟨vb, 2, none⟩ = some (.float .f64 0) := by rw [cell_of_block HV.out]; rfl
  have v3 : Wt.cell? ⟨vb, 3, none⟩ = some (.string ⟨#[]⟩) := by rw [cell_of_block HV.out]; rfl
  have hx1 : Wt.cell? ⟨s, 1, none⟩ = some (.int .i64 x) := by
    obtain ⟨_, _, hp, _⟩ := HR.out
    rw [cell_of_block hp]; rfl
  by_cases hx : x = 0
  case neg =>
    have hz : (x == 0) = false := by simpa using hx
    have HX := HE1.out hx
    have r0 : Wt.cell? ⟨w.heap.size, 0, none⟩ = some (.int .i64 0) := by rw [cell_of_block HRes.out]; rfl
    have r1 : Wt.cell? ⟨w.heap.size, 1, none⟩ = some (.int .i64 0) := by rw [cell_of_block HRes.out]; rfl
    have r2 : Wt.cell? ⟨w.heap.size, 2, none⟩ = some (.float .f64 0) := by rw [cell_of_block HRes.out]; rfl
    have r3 : Wt.cell? ⟨w.heap.size, 3, none⟩ = some (.string ⟨#[]⟩) := by rw [cell_of_block HRes.out]; rfl
    have y0 : Wt.frozen? ⟨w.heap.size, 0, none⟩ = false := free_of_block HRes.out
    have y1 : Wt.frozen? ⟨w.heap.size, 1, none⟩ = false := free_of_block HRes.out
    have y2 : Wt.frozen? ⟨w.heap.size, 2, none⟩ = false := free_of_block HRes.out
    have y3 : Wt.frozen? ⟨w.heap.size, 3, none⟩ = false := free_of_block HRes.out
    have HF : Hid (((((Wt.setCell ⟨w.heap.size, 0, none⟩ (.int .i64 0)).setCell ⟨w.heap.size, 1, none⟩ (.int .i64 0)).setCell ⟨w.heap.size, 2, none⟩ (.float .f64 0)).setCell ⟨w.heap.size, 3, none⟩ (.string ⟨#[]⟩)).heap[w.heap.size]? = some (.cells #[.int .i64 0, .int .i64 0, .float .f64 0, .string ⟨#[]⟩] 31 (0, 0))) := put4R _ _ _ _ HRes.out
    have HT : Hid (Touch (· = s) w ((((Wt.setCell ⟨w.heap.size, 0, none⟩ (.int .i64 0)).setCell ⟨w.heap.size, 1, none⟩ (.int .i64 0)).setCell ⟨w.heap.size, 2, none⟩ (.float .f64 0)).setCell ⟨w.heap.size, 3, none⟩ (.string ⟨#[]⟩))) := touch4R_new HTt.out _ (Nat.le_refl _) _ _ _ _
    have HRR : Hid (RR ((((Wt.setCell ⟨w.heap.size, 0, none⟩ (.int .i64 0)).setCell ⟨w.heap.size, 1, none⟩ (.int .i64 0)).setCell ⟨w.heap.size, 2, none⟩ (.float .f64 0)).setCell ⟨w.heap.size, 3, none⟩ (.string ⟨#[]⟩)) s g rest x) := HR.out.keep (touch4R _ _ _ _ _ _) (by have := HS.out; omega) (fun _ => by have := HS.out; omega)
    clear v0 v1 v2 v3
    go_wp2_with fail
    have f0 := cell_of_block (i := 0) HF.out
    have f1 := cell_of_block (i := 1) HF.out
    have f2 := cell_of_block (i := 2) HF.out
    have f3 := cell_of_block (i := 3) HF.out
    refine bodyPost_ret (v := .agg #[.int .i64 0, .int .i64 0, .float .f64 0, .string ⟨#[]⟩]) ?_ rfl (.inr ⟨by rw [HX]; exact hx, rfl, ⟨_, by rw [HX]; exact HRR.out⟩, HT.out⟩)
    simp [results, Tryd.results7, go_sem, f0, f1, f2, f3]
  subst hx
  by_cases hC : C = 0
  case pos =>
    subst hC
    have HX := HE3.out rfl rfl
    go_wp2_with fail
    refine (HCk.out _).mono ?_
    rintro e Wc ⟨rfl, hTc⟩
    have hres := (hTc.block _ (lt_of_heap HRes.out) id).trans HRes.out
    have hv := (hTc.block _ (lt_of_heap HV.out) id).trans HV.out
    have hr := HR.out.keep hTc id (fun _ => id)
    have ht : Touch (· = s) w Wc := HTt.out.then hTc (fun _ _ h => h.elim)
    have hx2 : Wc.cell? ⟨s, 1, none⟩ = some (.int .i64 0) := by
      obtain ⟨_, _, hp, _⟩ := hr
      rw [cell_of_block hp]; rfl
    have u0 : Wc.cell? ⟨vb, 0, none⟩ = some (.int .i64 k) := by rw [cell_of_block hv]; rfl
    have u1 : Wc.cell? ⟨vb, 1, none⟩ = some (.int .i64 0) := by rw [cell_of_block hv]; rfl
    have u2 : Wc.cell? ⟨vb, 2, none⟩ = some (.float .f64 0) := by rw [cell_of_block hv]; rfl
    have u3 : Wc.cell? ⟨vb, 3, none⟩ = some (.string ⟨#[]⟩) := by rw [cell_of_block hv]; rfl
    have r0 : Wc.cell? ⟨w.heap.size, 0, none⟩ = some (.int .i64 0) := by rw [cell_of_block hres]; rfl
    have r1 : Wc.cell? ⟨w.heap.size, 1, none⟩ = some (.int .i64 0) := by rw [cell_of_block hres]; rfl
    have r2 : Wc.cell? ⟨w.heap.size, 2, none⟩ = some (.float .f64 0) := by rw [cell_of_block hres]; rfl
    have r3 : Wc.cell? ⟨w.heap.size, 3, none⟩ = some (.string ⟨#[]⟩) := by rw [cell_of_block hres]; rfl
    have y0 : Wc.frozen? ⟨w.heap.size, 0, none⟩ = false := free_of_block hres
    have y1 : Wc.frozen? ⟨w.heap.size, 1, none⟩ = false := free_of_block hres
    have y2 : Wc.frozen? ⟨w.heap.size, 2, none⟩ = false := free_of_block hres
    have y3 : Wc.frozen? ⟨w.heap.size, 3, none⟩ = false := free_of_block hres
    have HF : Hid (((((Wc.setCell ⟨w.heap.size, 0, none⟩ (.int .i64 k)).setCell ⟨w.heap.size, 1, none⟩ (.int .i64 0)).setCell ⟨w.heap.size, 2, none⟩ (.float .f64 0)).setCell ⟨w.heap.size, 3, none⟩ (.string ⟨#[]⟩)).heap[w.heap.size]? = some (.cells #[.int .i64 k, .int .i64 0, .float .f64 0, .string ⟨#[]⟩] 31 (0, 0))) := put4R _ _ _ _ hres
    have HT : Hid (Touch (· = s) w ((((Wc.setCell ⟨w.heap.size, 0, none⟩ (.int .i64 k)).setCell ⟨w.heap.size, 1, none⟩ (.int .i64 0)).setCell ⟨w.heap.size, 2, none⟩ (.float .f64 0)).setCell ⟨w.heap.size, 3, none⟩ (.string ⟨#[]⟩))) := touch4R_new ht _ (Nat.le_refl _) _ _ _ _
    have HRR : Hid (RR ((((Wc.setCell ⟨w.heap.size, 0, none⟩ (.int .i64 k)).setCell ⟨w.heap.size, 1, none⟩ (.int .i64 0)).setCell ⟨w.heap.size, 2, none⟩ (.float .f64 0)).setCell ⟨w.heap.size, 3, none⟩ (.string ⟨#[]⟩)) s g rest 0) := hr.keep (touch4R _ _ _ _ _ _) (by have := HS.out; omega) (fun _ => by have := HS.out; omega)
    clear v0 v1 v2 v3 hres hv hr ht hTc
    go_wp2_with fail
    have f0 := cell_of_block (i := 0) HF.out
    have f1 := cell_of_block (i := 1) HF.out
    have f2 := cell_of_block (i := 2) HF.out
    have f3 := cell_of_block (i := 3) HF.out
    refine bodyPost_ret (v := .agg #[.int .i64 k, .int .i64 0, .float .f64 0, .string ⟨#[]⟩]) ?_ rfl (.inl ⟨HX, rfl, by rw [← hrest.out]; exact HRR.out, HT.out⟩)
    simp [results, Tryd.results7, go_sem, f0, f1, f2, f3]
  case neg =>
    have hz : (C == 0) = false := by simpa using hC
    have HX := HE2.out rfl hC
    go_wp2_with fail
    refine (HCk.out _).mono ?_
    rintro e Wc ⟨rfl, hTc⟩
    have hres := (hTc.block _ (lt_of_heap HRes.out) id).trans HRes.out
    have hr := HR.out.keep hTc id (fun _ => id)
    have HR2 : Hid (RR Wc s g rest 0) := hr
    have HRes2 : Hid (Wc.heap[w.heap.size]? = some (.cells #[.int .i64 0, .int .i64 0, .float .f64 0, .string ⟨#[]⟩] 31)) := hres
    have HTc : Hid (Touch (· = s) w Wc) := HTt.out.then hTc (fun _ _ h => h.elim)
    have hx2 : Wc.cell? ⟨s, 1, none⟩ = some (.int .i64 0) := by
      obtain ⟨_, _, hp, _⟩ := hr
      rw [cell_of_block hp]; rfl
    clear v0 v1 v2 v3 hres hr hTc
    go_wp2_with fail
    refine (refFail_full s g rest 0 _ HR2.out 11).mono ?_
    rintro e Wf ⟨rfl, hr, hTf⟩
    have hres := (hTf.block _ (lt_of_heap HRes2.out) (by have := HS.out; omega)).trans HRes2.out
    have ht : Touch (· = s) w Wf := HTc.out.trans hTf
    rw [if_pos rfl] at hr
    have hx3 : Wf.cell? ⟨s, 1, none⟩ = some (.int .i64 11) := by
      obtain ⟨_, _, hp, _⟩ := hr
      rw [cell_of_block hp]; rfl
    have r0 : Wf.cell? ⟨w.heap.size, 0, none⟩ = some (.int .i64 0) := by rw [cell_of_block hres]; rfl
    have r1 : Wf.cell? ⟨w.heap.size, 1, none⟩ = some (.int .i64 0) := by rw [cell_of_block hres]; rfl
    have r2 : Wf.cell? ⟨w.heap.size, 2, none⟩ = some (.float .f64 0) := by rw [cell_of_block hres]; rfl
    have r3 : Wf.cell? ⟨w.heap.size, 3, none⟩ = some (.string ⟨#[]⟩) := by rw [cell_of_block hres]; rfl
    have y0 : Wf.frozen? ⟨w.heap.size, 0, none⟩ = false := free_of_block hres
    have y1 : Wf.frozen? ⟨w.heap.size, 1, none⟩ = false := free_of_block hres
    have y2 : Wf.frozen? ⟨w.heap.size, 2, none⟩ = false := free_of_block hres
    have y3 : Wf.frozen? ⟨w.heap.size, 3, none⟩ = false := free_of_block hres
    have HF : Hid (((((Wf.setCell ⟨w.heap.size, 0, none⟩ (.int .i64 0)).setCell ⟨w.heap.size, 1, none⟩ (.int .i64 0)).setCell ⟨w.heap.size, 2, none⟩ (.float .f64 0)).setCell ⟨w.heap.size, 3, none⟩ (.string ⟨#[]⟩)).heap[w.heap.size]? = some (.cells #[.int .i64 0, .int .i64 0, .float .f64 0, .string ⟨#[]⟩] 31 (0, 0))) := put4R _ _ _ _ hres
    have HT : Hid (Touch (· = s) w ((((Wf.setCell ⟨w.heap.size, 0, none⟩ (.int .i64 0)).setCell ⟨w.heap.size, 1, none⟩ (.int .i64 0)).setCell ⟨w.heap.size, 2, none⟩ (.float .f64 0)).setCell ⟨w.heap.size, 3, none⟩ (.string ⟨#[]⟩))) := touch4R_new ht _ (Nat.le_refl _) _ _ _ _
    have HRR : Hid (RR ((((Wf.setCell ⟨w.heap.size, 0, none⟩ (.int .i64 0)).setCell ⟨w.heap.size, 1, none⟩ (.int .i64 0)).setCell ⟨w.heap.size, 2, none⟩ (.float .f64 0)).setCell ⟨w.heap.size, 3, none⟩ (.string ⟨#[]⟩)) s g rest 11) := hr.keep (touch4R _ _ _ _ _ _) (by have := HS.out; omega) (fun _ => by have := HS.out; omega)
    clear hres hr ht hTf HR2 HRes2 HTc
    go_wp2_with fail
    have f0 := cell_of_block (i := 0) HF.out
    have f1 := cell_of_block (i := 1) HF.out
    have f2 := cell_of_block (i := 2) HF.out
    have f3 := cell_of_block (i := 3) HF.out
    refine bodyPost_ret (v := .agg #[.int .i64 0, .int .i64 0, .float .f64 0, .string ⟨#[]⟩]) ?_ rfl (.inr ⟨by rw [HX]; decide, rfl, ⟨_, by rw [HX]; exact HRR.out⟩, HT.out⟩)
    simp [results, Tryd.results7, go_sem, f0, f1, f2, f3]

set_option maxHeartbeats 4000000 in
theorem rv_num (s g : Nat) (bs cs1 : List UInt8) (e1 : Int) (cs2 : List UInt8) (e2 : Int) (G : Nat) (hG : isNaN G = false) (ev C : Int) (w : World) (h : RR w s g bs 0) (hgl : g < w.heap.size) (ho2 : rdFixed cs1 e1 = (e2, .int .u64 G, cs2)) (ho : rdByte bs 0 = (e1, .int .u8 3, cs1)) (hC : refCheck ⟨3, 0, G, ⟨#[]⟩⟩ = C) (he1 : e2 ≠ 0 → ev = e2) (he2 : e2 = 0 → C ≠ 0 → ev = 11) (he3 : e2 = 0 → C = 0 → ev = 0) :
    Calls Tryd.prog 7 #[.pointer (some ⟨s, 0, none⟩)] w (RVPost s g cs2 ev ⟨3, 0, G, ⟨#[]⟩⟩ w) := by
  have HS : Hid (s < w.heap.size ∧ g < w.heap.size) := ⟨h.lt, hgl⟩
  have HCk : Hid (∀ w, Calls Tryd.prog 32 #[V.val ⟨3, 0, G, ⟨#[]⟩⟩] w fun e w' => e = .returned (.int .i64 C) ∧ Touch (fun _ => False) w w') := fun w => by
    have := ref_check ⟨3, 0, G, ⟨#[]⟩⟩ (Nat.zero_le _) w
    rw [hC] at this
    exact this
  simp only [V.val] at HCk
  have HR0 : Hid (RR (w.alloc (.cells #[.int .i64 0, .int .i64 0, .float .f64 0, .string ⟨#[]⟩] 31)) s g bs 0) := h.keep (S := fun _ => False) ((Touch.refl _ _).alloc _) id (fun _ => id)
  have HO : Hid (rdByte bs 0 = (e1, .int .u8 3, cs1)) := ho
  have HO2 : Hid (rdFixed cs1 e1 = (e2, .int .u64 G, cs2)) := ho2
  clear h ho hgl hC ho2
  have hfb := f64frombits_run
  have hst := run_store_f64 Tryd.prog
  have HE1 : Hid (e2 ≠ 0 → ev = e2) := he1
  have HE2 : Hid (e2 = 0 → C ≠ 0 → ev = 11) := he2
  have HE3 : Hid (e2 = 0 → C = 0 → ev = 0) := he3
  clear he1 he2 he3
  go_enter Tryd.func7, Tryd.ntmps7
  go_wp2_with fail
  refine (refByte_any s g _ 0 _ HR0.out).mono ?_
  rw [HO.out]
  rintro e w1 ⟨rfl, hR1, hT1⟩
  have hS := HS.out
  have hb1 : w1.heap[w.heap.size]? = some (.cells #[.int .i64 0, .int .i64 0, .float .f64 0, .string ⟨#[]⟩] 31) := (hT1.block _ (by simp) (by omega)).trans (heap_alloc_new _ _)
  have HR1 : Hid (RR (w1.alloc (.cells #[.int .i64 3, .int .i64 0, .float .f64 0, .string ⟨#[]⟩] 31)) s g cs1 e1) := hR1.keep (S := fun _ => False) ((Touch.refl _ _).alloc _) id (fun _ => id)
  have HB1 : Hid ((w1.alloc (.cells #[.int .i64 3, .int .i64 0, .float .f64 0, .string ⟨#[]⟩] 31)).heap[w.heap.size]? = some (.cells #[.int .i64 0, .int .i64 0, .float .f64 0, .string ⟨#[]⟩] 31)) := (Below.heap_alloc _ _ _ (lt_of_heap hb1)).trans hb1
  have HT1 : Hid (Touch (· = s) w (w1.alloc (.cells #[.int .i64 3, .int .i64 0, .float .f64 0, .string ⟨#[]⟩] 31))) := ((((Touch.refl _ w).alloc _)).then hT1 (fun _ _ h => h)).alloc _
  have HL1 : Hid ((w1.alloc (.cells #[.int .i64 3, .int .i64 0, .float .f64 0, .string ⟨#[]⟩] 31)).heap[w1.heap.size]? = some (.cells #[.int .i64 3, .int .i64 0, .float .f64 0, .string ⟨#[]⟩] 31)) := heap_alloc_new _ _
  have HN : Hid (s < w1.heap.size ∧ g < w1.heap.size ∧ w.heap.size < w1.heap.size) := by have := hT1.size; simp at this; exact ⟨by omega, by omega, by omega⟩
  obtain ⟨vb, hvb⟩ : ∃ vb, Hid (vb = w1.heap.size) := ⟨_, Eq.refl _⟩
  obtain ⟨wa, hwa⟩ : ∃ wa, Hid (wa = w1.alloc (.cells #[.int .i64 3, .int .i64 0, .float .f64 0, .string ⟨#[]⟩] 31)) := ⟨_, Eq.refl _⟩
  clear hR1 hT1 hb1 HR0 HO hS
  rw [← hwa.out, ← hvb.out] at HL1
  rw [← hwa.out] at HR1 HB1 HT1
  rw [← hvb.out] at HN
  have l0 : wa.cell? ⟨vb, 0, none⟩ = some (.int .i64 3) := by rw [cell_of_block HL1.out]; rfl
  have l1 : wa.cell? ⟨vb, 1, none⟩ = some (.int .i64 0) := by rw [cell_of_block HL1.out]; rfl
  have l2 : wa.cell? ⟨vb, 2, none⟩ = some (.float .f64 0) := by rw [cell_of_block HL1.out]; rfl
  have l3 : wa.cell? ⟨vb, 3, none⟩ = some (.string ⟨#[]⟩) := by rw [cell_of_block HL1.out]; rfl
  go_wp2_with fail
  rw [← hwa.out, ← hvb.out]
  refine (refFixed_any s g _ e1 _ HR1.out).mono ?_
  rw [HO2.out]
  rintro e w2 ⟨rfl, hR2, hT2⟩
  have hS := HS.out
  have hn := HN.out
  have hb2 := (hT2.block _ (lt_of_heap HB1.out) (by omega)).trans HB1.out
  have hl2 := (hT2.block _ (lt_of_heap HL1.out) (by omega)).trans HL1.out
  have m0 : w2.cell? ⟨vb, 0, none⟩ = some (.int .i64 3) := by rw [cell_of_block hl2]; rfl
  have m1 : w2.cell? ⟨vb, 1, none⟩ = some (.int .i64 0) := by rw [cell_of_block hl2]; rfl
  have m2 : w2.cell? ⟨vb, 2, none⟩ = some (.float .f64 0) := by rw [cell_of_block hl2]; rfl
  have m3 : w2.cell? ⟨vb, 3, none⟩ = some (.string ⟨#[]⟩) := by rw [cell_of_block hl2]; rfl
  have zm : w2.frozen? ⟨vb, 2, none⟩ = false := free_of_block hl2
  have TV : Touch (· = vb) w2 (w2.setCell ⟨vb, 2, none⟩ (.float .f64 G)) := (Touch.refl _ _).setCell ⟨vb, 2, none⟩ _ (fun _ => rfl)
  obtain ⟨Wt, hWt⟩ : ∃ Wt, Hid (Wt = w2.setCell ⟨vb, 2, none⟩ (.float .f64 G)) := ⟨_, Eq.refl _⟩
  have HRes : Hid (Wt.heap[w.heap.size]? = some (.cells #[.int .i64 0, .int .i64 0, .float .f64 0, .string ⟨#[]⟩] 31)) := by rw [hWt.out]; exact ((TV.block _ (lt_of_heap hb2) (by omega)).trans hb2)
  have HV : Hid (Wt.heap[vb]? = some (.cells #[.int .i64 3, .int .i64 0, .float .f64 G, .string ⟨#[]⟩] 31)) := by rw [hWt.out]; exact (by rw [heap_setCell_same _ _ _ _ hl2]; rfl)
  have HR : Hid (RR Wt s g cs2 e2) := by rw [hWt.out]; exact (hR2.keep TV (by omega) (fun _ => by omega))
  have HTt : Hid (Touch (· = s) w Wt) := by rw [hWt.out]; exact ((HT1.out.trans hT2).then TV (fun k hk e => by omega))
  clear hb2 hl2 hR2 hT2 TV hn hS HR1 HB1 HT1 HL1
  have hsn := self_neq G
  rw [hG] at hsn
  obtain ⟨x, hxx⟩ : ∃ x, Hid (x = e2) := ⟨_, Eq.refl _⟩
  rw [← hxx.out] at HR HE1 HE2 HE3
  obtain ⟨rest, hrest⟩ : ∃ rest, Hid (rest = cs2) := ⟨_, Eq.refl _⟩
  rw [← hrest.out] at HR
  go_upto_region 17 with fail
  rw [← hWt.out]
  clear hWt m0 m1 m2 m3 zm l0 l1 l2 l3 hwa hvb hsn
  have v0 : Wt.cell? ⟨vb, 0, none⟩ = some (.int .i64 3) := by rw [cell_of_block HV.out]; rfl
  have v1 : Wt.cell? ⟨vb, 1, none⟩ = some (.int .i64 0) := by rw [cell_of_block HV.out]; rfl
  have v2 : Wt.cell? ⟨vb, 2, none⟩ = some (.float .f64 G) := by rw [cell_of_block HV.out]; rfl
  have v3 : Wt.cell? ⟨vb, 3, none⟩ = some (.string ⟨#[]⟩) := by rw [cell_of_block HV.out]; rfl
  have hx1 : Wt.cell? ⟨s, 1, none⟩ = some (.int .i64 x) := by
    obtain ⟨_, _, hp, _⟩ := HR.out
    rw [cell_of_block hp]; rfl
  by_cases hx : x = 0
  case neg =>
    have hz : (x == 0) = false := by simpa using hx
    have HX := HE1.out hx
    have r0 : Wt.cell? ⟨w.heap.size, 0, none⟩ = some (.int .i64 0) := by rw [cell_of_block HRes.out]; rfl
    have r1 : Wt.cell? ⟨w.heap.size, 1, none⟩ = some (.int .i64 0) := by rw [cell_of_block HRes.out]; rfl
    have r2 : Wt.cell? ⟨w.heap.size, 2, none⟩ = some (.float .f64 0) := by rw [cell_of_block HRes.out]; rfl
    have r3 : Wt.cell? ⟨w.heap.size, 3, none⟩ = some (.string ⟨#[]⟩) := by rw [cell_of_block HRes.out]; rfl
    have y0 : Wt.frozen? ⟨w.heap.size, 0, none⟩ = false := free_of_block HRes.out
    have y1 : Wt.frozen? ⟨w.heap.size, 1, none⟩ = false := free_of_block HRes.out
    have y2 : Wt.frozen? ⟨w.heap.size, 2, none⟩ = false := free_of_block HRes.out
    have y3 : Wt.frozen? ⟨w.heap.size, 3, none⟩ = false := free_of_block HRes.out
    have HF : Hid (((((Wt.setCell ⟨w.heap.size, 0, none⟩ (.int .i64 0)).setCell ⟨w.heap.size, 1, none⟩ (.int .i64 0)).setCell ⟨w.heap.size, 2, none⟩ (.float .f64 0)).setCell ⟨w.heap.size, 3, none⟩ (.string ⟨#[]⟩)).heap[w.heap.size]? = some (.cells #[.int .i64 0, .int .i64 0, .float .f64 0, .string ⟨#[]⟩] 31 (0, 0))) := put4R _ _ _ _ HRes.out
    have HT : Hid (Touch (· = s) w ((((Wt.setCell ⟨w.heap.size, 0, none⟩ (.int .i64 0)).setCell ⟨w.heap.size, 1, none⟩ (.int .i64 0)).setCell ⟨w.heap.size, 2, none⟩ (.float .f64 0)).setCell ⟨w.heap.size, 3, none⟩ (.string ⟨#[]⟩))) := touch4R_new HTt.out _ (Nat.le_refl _) _ _ _ _
    have HRR : Hid (RR ((((Wt.setCell ⟨w.heap.size, 0, none⟩ (.int .i64 0)).setCell ⟨w.heap.size, 1, none⟩ (.int .i64 0)).setCell ⟨w.heap.size, 2, none⟩ (.float .f64 0)).setCell ⟨w.heap.size, 3, none⟩ (.string ⟨#[]⟩)) s g rest x) := HR.out.keep (touch4R _ _ _ _ _ _) (by have := HS.out; omega) (fun _ => by have := HS.out; omega)
    clear v0 v1 v2 v3
    go_wp2_with fail
    have f0 := cell_of_block (i := 0) HF.out
    have f1 := cell_of_block (i := 1) HF.out
    have f2 := cell_of_block (i := 2) HF.out
    have f3 := cell_of_block (i := 3) HF.out
    refine bodyPost_ret (v := .agg #[.int .i64 0, .int .i64 0, .float .f64 0, .string ⟨#[]⟩]) ?_ rfl (.inr ⟨by rw [HX]; exact hx, rfl, ⟨_, by rw [HX]; exact HRR.out⟩, HT.out⟩)
    simp [results, Tryd.results7, go_sem, f0, f1, f2, f3]
  subst hx
  by_cases hC : C = 0
  case pos =>
    subst hC
    have HX := HE3.out rfl rfl
    go_wp2_with fail
    refine (HCk.out _).mono ?_
    rintro e Wc ⟨rfl, hTc⟩
    have hres := (hTc.block _ (lt_of_heap HRes.out) id).trans HRes.out
    have hv := (hTc.block _ (lt_of_heap HV.out) id).trans HV.out
    have hr := HR.out.keep hTc id (fun _ => id)
    have ht : Touch (· = s) w Wc := HTt.out.then hTc (fun _ _ h => h.elim)
    have hx2 : Wc.cell? ⟨s, 1, none⟩ = some (.int .i64 0) := by
      obtain ⟨_, _, hp, _⟩ := hr
      rw [cell_of_block hp]; rfl
    have u0 : Wc.cell? ⟨vb, 0, none⟩ = some (.int .i64 3) := by rw [cell_of_block hv]; rfl
    have u1 : Wc.cell? ⟨vb, 1, none⟩ = some (.int .i64 0) := by rw [cell_of_block hv]; rfl
    have u2 : Wc.cell? ⟨vb, 2, none⟩ = some (.float .f64 G) := by rw [cell_of_block hv]; rfl
    have u3 : Wc.cell? ⟨vb, 3, none⟩ = some (.string ⟨#[]⟩) := by rw [cell_of_block hv]; rfl
    have r0 : Wc.cell? ⟨w.heap.size, 0, none⟩ = some (.int .i64 0) := by rw [cell_of_block hres]; rfl
    have r1 : Wc.cell? ⟨w.heap.size, 1, none⟩ = some (.int .i64 0) := by rw [cell_of_block hres]; rfl
    have r2 : Wc.cell? ⟨w.heap.size, 2, none⟩ = some (.float .f64 0) := by rw [cell_of_block hres]; rfl
    have r3 : Wc.cell? ⟨w.heap.size, 3, none⟩ = some (.string ⟨#[]⟩) := by rw [cell_of_block hres]; rfl
    have y0 : Wc.frozen? ⟨w.heap.size, 0, none⟩ = false := free_of_block hres
    have y1 : Wc.frozen? ⟨w.heap.size, 1, none⟩ = false := free_of_block hres
    have y2 : Wc.frozen? ⟨w.heap.size, 2, none⟩ = false := free_of_block hres
    have y3 : Wc.frozen? ⟨w.heap.size, 3, none⟩ = false := free_of_block hres
    have HF : Hid (((((Wc.setCell ⟨w.heap.size, 0, none⟩ (.int .i64 3)).setCell ⟨w.heap.size, 1, none⟩ (.int .i64 0)).setCell ⟨w.heap.size, 2, none⟩ (.float .f64 G)).setCell ⟨w.heap.size, 3, none⟩ (.string ⟨#[]⟩)).heap[w.heap.size]? = some (.cells #[.int .i64 3, .int .i64 0, .float .f64 G, .string ⟨#[]⟩] 31 (0, 0))) := put4R _ _ _ _ hres
    have HT : Hid (Touch (· = s) w ((((Wc.setCell ⟨w.heap.size, 0, none⟩ (.int .i64 3)).setCell ⟨w.heap.size, 1, none⟩ (.int .i64 0)).setCell ⟨w.heap.size, 2, none⟩ (.float .f64 G)).setCell ⟨w.heap.size, 3, none⟩ (.string ⟨#[]⟩))) := touch4R_new ht _ (Nat.le_refl _) _ _ _ _
    have HRR : Hid (RR ((((Wc.setCell ⟨w.heap.size, 0, none⟩ (.int .i64 3)).setCell ⟨w.heap.size, 1, none⟩ (.int .i64 0)).setCell ⟨w.heap.size, 2, none⟩ (.float .f64 G)).setCell ⟨w.heap.size, 3, none⟩ (.string ⟨#[]⟩)) s g rest 0) := hr.keep (touch4R _ _ _ _ _ _) (by have := HS.out; omega) (fun _ => by have := HS.out; omega)
    clear v0 v1 v2 v3 hres hv hr ht hTc
    go_wp2_with fail
    have f0 := cell_of_block (i := 0) HF.out
    have f1 := cell_of_block (i := 1) HF.out
    have f2 := cell_of_block (i := 2) HF.out
    have f3 := cell_of_block (i := 3) HF.out
    refine bodyPost_ret (v := .agg #[.int .i64 3, .int .i64 0, .float .f64 G, .string ⟨#[]⟩]) ?_ rfl (.inl ⟨HX, rfl, by rw [← hrest.out]; exact HRR.out, HT.out⟩)
    simp [results, Tryd.results7, go_sem, f0, f1, f2, f3]
  case neg =>
    have hz : (C == 0) = false := by simpa using hC
    have HX := HE2.out rfl hC
    go_wp2_with fail
    refine (HCk.out _).mono ?_
    rintro e Wc ⟨rfl, hTc⟩
    have hres := (hTc.block _ (lt_of_heap HRes.out) id).trans HRes.out
    have hr := HR.out.keep hTc id (fun _ => id)
    have HR2 : Hid (RR Wc s g rest 0) := hr
    have HRes2 : Hid (Wc.heap[w.heap.size]? = some (.cells #[.int .i64 0, .int .i64 0, .float .f64 0, .string ⟨#[]⟩] 31)) := hres
    have HTc : Hid (Touch (· = s) w Wc) := HTt.out.then hTc (fun _ _ h => h.elim)
    have hx2 : Wc.cell? ⟨s, 1, none⟩ = some (.int .i64 0) := by
      obtain ⟨_, _, hp, _⟩ := hr
      rw [cell_of_block hp]; rfl
    clear v0 v1 v2 v3 hres hr hTc
    go_wp2_with fail
    refine (refFail_full s g rest 0 _ HR2.out 11).mono ?_
    rintro e Wf ⟨rfl, hr, hTf⟩
    have hres := (hTf.block _ (lt_of_heap HRes2.out) (by have := HS.out; omega)).trans HRes2.out
    have ht : Touch (· = s) w Wf := HTc.out.trans hTf
    rw [if_pos rfl] at hr
    have hx3 : Wf.cell? ⟨s, 1, none⟩ = some (.int .i64 11) := by
      obtain ⟨_, _, hp, _⟩ := hr
      rw [cell_of_block hp]; rfl
    have r0 : Wf.cell? ⟨w.heap.size, 0, none⟩ = some (.int .i64 0) := by rw [cell_of_block hres]; rfl
    have r1 : Wf.cell? ⟨w.heap.size, 1, none⟩ = some (.int .i64 0) := by rw [cell_of_block hres]; rfl
    have r2 : Wf.cell? ⟨w.heap.size, 2, none⟩ = some (.float .f64 0) := by rw [cell_of_block hres]; rfl
    have r3 : Wf.cell? ⟨w.heap.size, 3, none⟩ = some (.string ⟨#[]⟩) := by rw [cell_of_block hres]; rfl
    have y0 : Wf.frozen? ⟨w.heap.size, 0, none⟩ = false := free_of_block hres
    have y1 : Wf.frozen? ⟨w.heap.size, 1, none⟩ = false := free_of_block hres
    have y2 : Wf.frozen? ⟨w.heap.size, 2, none⟩ = false := free_of_block hres
    have y3 : Wf.frozen? ⟨w.heap.size, 3, none⟩ = false := free_of_block hres
    have HF : Hid (((((Wf.setCell ⟨w.heap.size, 0, none⟩ (.int .i64 0)).setCell ⟨w.heap.size, 1, none⟩ (.int .i64 0)).setCell ⟨w.heap.size, 2, none⟩ (.float .f64 0)).setCell ⟨w.heap.size, 3, none⟩ (.string ⟨#[]⟩)).heap[w.heap.size]? = some (.cells #[.int .i64 0, .int .i64 0, .float .f64 0, .string ⟨#[]⟩] 31 (0, 0))) := put4R _ _ _ _ hres
    have HT : Hid (Touch (· = s) w ((((Wf.setCell ⟨w.heap.size, 0, none⟩ (.int .i64 0)).setCell ⟨w.heap.size, 1, none⟩ (.int .i64 0)).setCell ⟨w.heap.size, 2, none⟩ (.float .f64 0)).setCell ⟨w.heap.size, 3, none⟩ (.string ⟨#[]⟩))) := touch4R_new ht _ (Nat.le_refl _) _ _ _ _
    have HRR : Hid (RR ((((Wf.setCell ⟨w.heap.size, 0, none⟩ (.int .i64 0)).setCell ⟨w.heap.size, 1, none⟩ (.int .i64 0)).setCell ⟨w.heap.size, 2, none⟩ (.float .f64 0)).setCell ⟨w.heap.size, 3, none⟩ (.string ⟨#[]⟩)) s g rest 11) := hr.keep (touch4R _ _ _ _ _ _) (by have := HS.out; omega) (fun _ => by have := HS.out; omega)
    clear hres hr ht hTf HR2 HRes2 HTc
    go_wp2_with fail
    have f0 := cell_of_block (i := 0) HF.out
    have f1 := cell_of_block (i := 1) HF.out
    have f2 := cell_of_block (i := 2) HF.out
    have f3 := cell_of_block (i := 3) HF.out
    refine bodyPost_ret (v := .agg #[.int .i64 0, .int .i64 0, .float .f64 0, .string ⟨#[]⟩]) ?_ rfl (.inr ⟨by rw [HX]; decide, rfl, ⟨_, by rw [HX]; exact HRR.out⟩, HT.out⟩)
    simp [results, Tryd.results7, go_sem, f0, f1, f2, f3]

set_option maxHeartbeats 4000000 in
theorem rv_nan (s g : Nat) (bs cs1 : List UInt8) (e1 : Int) (cs2 : List UInt8) (e2 : Int) (G : Nat) (hG : isNaN G = true) (hg : G = nanBits) (ev C : Int) (w : World) (h : RR w s g bs 0) (hgl : g < w.heap.size) (ho2 : rdFixed cs1 e1 = (e2, .int .u64 G, cs2)) (ho : rdByte bs 0 = (e1, .int .u8 3, cs1)) (hC : refCheck ⟨3, 0, G, ⟨#[]⟩⟩ = C) (he1 : e2 ≠ 0 → ev = e2) (he2 : e2 = 0 → C ≠ 0 → ev = 11) (he3 : e2 = 0 → C = 0 → ev = 0) :
    Calls Tryd.prog 7 #[.pointer (some ⟨s, 0, none⟩)] w (RVPost s g cs2 ev ⟨3, 0, G, ⟨#[]⟩⟩ w) := by
  have HS : Hid (s < w.heap.size ∧ g < w.heap.size) := ⟨h.lt, hgl⟩
  have HCk : Hid (∀ w, Calls Tryd.prog 32 #[V.val ⟨3, 0, G, ⟨#[]⟩⟩] w fun e w' => e = .returned (.int .i64 C) ∧ Touch (fun _ => False) w w') := fun w => by
    have := ref_check ⟨3, 0, G, ⟨#[]⟩⟩ (Nat.zero_le _) w
    rw [hC] at this
    exact this
  simp only [V.val] at HCk
  have HR0 : Hid (RR (w.alloc (.cells #[.int .i64 0, .int .i64 0, .float .f64 0, .string ⟨#[]⟩] 31)) s g bs 0) := h.keep (S := fun _ => False) ((Touch.refl _ _).alloc _) id (fun _ => id)
  have HO : Hid (rdByte bs 0 = (e1, .int .u8 3, cs1)) := ho
  have HO2 : Hid (rdFixed cs1 e1 = (e2, .int .u64 G, cs2)) := ho2
  clear h ho hgl hC ho2
  have hfb := f64frombits_run
  have hst := run_store_f64 Tryd.prog
  have HE1 : Hid (e2 ≠ 0 → ev = e2) := he1
  have HE2 : Hid (e2 = 0 → C ≠ 0 → ev = 11) := he2
  have HE3 : Hid (e2 = 0 → C = 0 → ev = 0) := he3
  clear he1 he2 he3
  go_enter Tryd.func7, Tryd.ntmps7
  go_wp2_with fail
  refine (refByte_any s g _ 0 _ HR0.out).mono ?_
  rw [HO.out]
  rintro e w1 ⟨rfl, hR1, hT1⟩
  have hS := HS.out
  have hb1 : w1.heap[w.heap.size]? = some (.cells #[.int .i64 0, .int .i64 0, .float .f64 0, .string ⟨#[]⟩] 31) := (hT1.block _ (by simp) (by omega)).trans (heap_alloc_new _ _)
  have HR1 : Hid (RR (w1.alloc (.cells #[.int .i64 3, .int .i64 0, .float .f64 0, .string ⟨#[]⟩] 31)) s g cs1 e1) := hR1.keep (S := fun _ => False) ((Touch.refl _ _).alloc _) id (fun _ => id)
  have HB1 : Hid ((w1.alloc (.cells #[.int .i64 3, .int .i64 0, .float .f64 0, .string ⟨#[]⟩] 31)).heap[w.heap.size]? = some (.cells #[.int .i64 0, .int .i64 0, .float .f64 0, .string ⟨#[]⟩] 31)) := (Below.heap_alloc _ _ _ (lt_of_heap hb1)).trans hb1
  have HT1 : Hid (Touch (· = s) w (w1.alloc (.cells #[.int .i64 3, .int .i64 0, .float .f64 0, .string ⟨#[]⟩] 31))) := ((((Touch.refl _ w).alloc _)).then hT1 (fun _ _ h => h)).alloc _
  have HL1 : Hid ((w1.alloc (.cells #[.int .i64 3, .int .i64 0, .float .f64 0, .string ⟨#[]⟩] 31)).heap[w1.heap.size]? = some (.cells #[.int .i64 3, .int .i64 0, .float .f64 0, .string ⟨#[]⟩] 31)) := heap_alloc_new _ _
  have HN : Hid (s < w1.heap.size ∧ g < w1.heap.size ∧ w.heap.size < w1.heap.size) := by have := hT1.size; simp at this; exact ⟨by omega, by omega, by omega⟩
  obtain ⟨vb, hvb⟩ : ∃ vb, Hid (vb = w1.heap.size) := ⟨_, Eq.refl _⟩
  obtain ⟨wa, hwa⟩ : ∃ wa, Hid (wa = w1.alloc (.cells #[.int .i64 3, .int .i64 0, .float .f64 0, .string ⟨#[]⟩] 31)) := ⟨_, Eq.refl _⟩
  clear hR1 hT1 hb1 HR0 HO hS
  rw [← hwa.out, ← hvb.out] at HL1
  rw [← hwa.out] at HR1 HB1 HT1
  rw [← hvb.out] at HN
  have l0 : wa.cell? ⟨vb, 0, none⟩ = some (.int .i64 3) := by rw [cell_of_block HL1.out]; rfl
  have l1 : wa.cell? ⟨vb, 1, none⟩ = some (.int .i64 0) := by rw [cell_of_block HL1.out]; rfl
  have l2 : wa.cell? ⟨vb, 2, none⟩ = some (.float .f64 0) := by rw [cell_of_block HL1.out]; rfl
  have l3 : wa.cell? ⟨vb, 3, none⟩ = some (.string ⟨#[]⟩) := by rw [cell_of_block HL1.out]; rfl
  go_wp2_with fail
  rw [← hwa.out, ← hvb.out]
  refine (refFixed_any s g _ e1 _ HR1.out).mono ?_
  rw [HO2.out]
  rintro e w2 ⟨rfl, hR2, hT2⟩
  have hS := HS.out
  have hn := HN.out
  have hb2 := (hT2.block _ (lt_of_heap HB1.out) (by omega)).trans HB1.out
  have hl2 := (hT2.block _ (lt_of_heap HL1.out) (by omega)).trans HL1.out
  have m0 : w2.cell? ⟨vb, 0, none⟩ = some (.int .i64 3) := by rw [cell_of_block hl2]; rfl
  have m1 : w2.cell? ⟨vb, 1, none⟩ = some (.int .i64 0) := by rw [cell_of_block hl2]; rfl
  have m2 : w2.cell? ⟨vb, 2, none⟩ = some (.float .f64 0) := by rw [cell_of_block hl2]; rfl
  have m3 : w2.cell? ⟨vb, 3, none⟩ = some (.string ⟨#[]⟩) := by rw [cell_of_block hl2]; rfl
  have zm : w2.frozen? ⟨vb, 2, none⟩ = false := free_of_block hl2
  have TV : Touch (· = vb) w2 (w2.setCell ⟨vb, 2, none⟩ (.float .f64 G)) := (Touch.refl _ _).setCell ⟨vb, 2, none⟩ _ (fun _ => rfl)
  obtain ⟨Wt, hWt⟩ : ∃ Wt, Hid (Wt = w2.setCell ⟨vb, 2, none⟩ (.float .f64 G)) := ⟨_, Eq.refl _⟩
  have HRes : Hid (Wt.heap[w.heap.size]? = some (.cells #[.int .i64 0, .int .i64 0, .float .f64 0, .string ⟨#[]⟩] 31)) := by rw [hWt.out]; exact ((TV.block _ (lt_of_heap hb2) (by omega)).trans hb2)
  have HV : Hid (Wt.heap[vb]? = some (.cells #[.int .i64 3, .int .i64 0, .float .f64 G, .string ⟨#[]⟩] 31)) := by rw [hWt.out]; exact (by rw [heap_setCell_same _ _ _ _ hl2]; rfl)
  have HR : Hid (RR Wt s g cs2 e2) := by rw [hWt.out]; exact (hR2.keep TV (by omega) (fun _ => by omega))
  have HTt : Hid (Touch (· = s) w Wt) := by rw [hWt.out]; exact ((HT1.out.trans hT2).then TV (fun k hk e => by omega))
  clear hb2 hl2 hR2 hT2 TV hn hS HR1 HB1 HT1 HL1
  have hsn := self_neq G
  rw [hG] at hsn
  have hnn : (((G : Nat) : Int) == 9221120237041090560) = true := by rw [hg]; rfl
  clear hg hG
  obtain ⟨x, hxx⟩ : ∃ x, Hid (x = e2) := ⟨_, Eq.refl _⟩
  rw [← hxx.out] at HR HE1 HE2 HE3
  obtain ⟨rest, hrest⟩ : ∃ rest, Hid (rest = cs2) := ⟨_, Eq.refl _⟩
  rw [← hrest.out] at HR
  go_upto_region 17 with fail
  rw [← hWt.out]
  clear hWt m0 m1 m2 m3 zm l0 l1 l2 l3 hwa hvb hsn hnn
  have v0 : Wt.cell? ⟨vb, 0, none⟩ = some (.int .i64 3) := by rw [cell_of_block HV.out]; rfl
  have v1 : Wt.cell? ⟨vb, 1, none⟩ = some (.int .i64 0) := by rw [cell_of_block HV.out]; rfl
  have v2 : Wt.cell? ⟨vb, 2, none⟩ = some (.float .f64 G) := by rw [cell_of_block HV.out]; rfl
  have v3 : Wt.cell? ⟨vb, 3, none⟩ = some (.string ⟨#[]⟩) := by rw [cell_of_block HV.out]; rfl
  have hx1 : Wt.cell? ⟨s, 1, none⟩ = some (.int .i64 x) := by
    obtain ⟨_, _, hp, _⟩ := HR.out
    rw [cell_of_block hp]; rfl
  by_cases hx : x = 0
  case neg =>
    have hz : (x == 0) = false := by simpa using hx
    have HX := HE1.out hx
    have r0 : Wt.cell? ⟨w.heap.size, 0, none⟩ = some (.int .i64 0) := by rw [cell_of_block HRes.out]; rfl
    have r1 : Wt.cell? ⟨w.heap.size, 1, none⟩ = some (.int .i64 0) := by rw [cell_of_block HRes.out]; rfl
    have r2 : Wt.cell? ⟨w.heap.size, 2, none⟩ = some (.float .f64 0) := by rw [cell_of_block HRes.out]; rfl
    have r3 : Wt.cell? ⟨w.heap.size, 3, none⟩ = some (.string ⟨#[]⟩) := by rw [cell_of_block HRes.out]; rfl
    have y0 : Wt.frozen? ⟨w.heap.size, 0, none⟩ = false := free_of_block HRes.out
    have y1 : Wt.frozen? ⟨w.heap.size, 1, none⟩ = false := free_of_block HRes.out
    have y2 : Wt.frozen? ⟨w.heap.size, 2, none⟩ = false := free_of_block HRes.out
    have y3 : Wt.frozen? ⟨w.heap.size, 3, none⟩ = false := free_of_block HRes.out
    have HF : Hid (((((Wt.setCell ⟨w.heap.size, 0, none⟩ (.int .i64 0)).setCell ⟨w.heap.size, 1, none⟩ (.int .i64 0)).setCell ⟨w.heap.size, 2, none⟩ (.float .f64 0)).setCell ⟨w.heap.size, 3, none⟩ (.string ⟨#[]⟩)).heap[w.heap.size]? = some (.cells #[.int .i64 0, .int .i64 0, .float .f64 0, .string ⟨#[]⟩] 31 (0, 0))) := put4R _ _ _ _ HRes.out
    have HT : Hid (Touch (· = s) w ((((Wt.setCell ⟨w.heap.size, 0, none⟩ (.int .i64 0)).setCell ⟨w.heap.size, 1, none⟩ (.int .i64 0)).setCell ⟨w.heap.size, 2, none⟩ (.float .f64 0)).setCell ⟨w.heap.size, 3, none⟩ (.string ⟨#[]⟩))) := touch4R_new HTt.out _ (Nat.le_refl _) _ _ _ _
    have HRR : Hid (RR ((((Wt.setCell ⟨w.heap.size, 0, none⟩ (.int .i64 0)).setCell ⟨w.heap.size, 1, none⟩ (.int .i64 0)).setCell ⟨w.heap.size, 2, none⟩ (.float .f64 0)).setCell ⟨w.heap.size, 3, none⟩ (.string ⟨#[]⟩)) s g rest x) := HR.out.keep (touch4R _ _ _ _ _ _) (by have := HS.out; omega) (fun _ => by have := HS.out; omega)
    clear v0 v1 v2 v3
    go_wp2_with fail
    have f0 := cell_of_block (i := 0) HF.out
    have f1 := cell_of_block (i := 1) HF.out
    have f2 := cell_of_block (i := 2) HF.out
    have f3 := cell_of_block (i := 3) HF.out
    refine bodyPost_ret (v := .agg #[.int .i64 0, .int .i64 0, .float .f64 0, .string ⟨#[]⟩]) ?_ rfl (.inr ⟨by rw [HX]; exact hx, rfl, ⟨_, by rw [HX]; exact HRR.out⟩, HT.out⟩)
    simp [results, Tryd.results7, go_sem, f0, f1, f2, f3]
  subst hx
  by_cases hC : C = 0
  case pos =>
    subst hC
    have HX := HE3.out rfl rfl
    go_wp2_with fail
    refine (HCk.out _).mono ?_
    rintro e Wc ⟨rfl, hTc⟩
    have hres := (hTc.block _ (lt_of_heap HRes.out) id).trans HRes.out
    have hv := (hTc.block _ (lt_of_heap HV.out) id).trans HV.out
    have hr := HR.out.keep hTc id (fun _ => id)
    have ht : Touch (· = s) w Wc := HTt.out.then hTc (fun _ _ h => h.elim)
    have hx2 : Wc.cell? ⟨s, 1, none⟩ = some (.int .i64 0) := by
      obtain ⟨_, _, hp, _⟩ := hr
      rw [cell_of_block hp]; rfl
    have u0 : Wc.cell? ⟨vb, 0, none⟩ = some (.int .i64 3) := by rw [cell_of_block hv]; rfl
    have u1 : Wc.cell? ⟨vb, 1, none⟩ = some (.int .i64 0) := by rw [cell_of_block hv]; rfl
    have u2 : Wc.cell? ⟨vb, 2, none⟩ = some (.float .f64 G) := by rw [cell_of_block hv]; rfl
    have u3 : Wc.cell? ⟨vb, 3, none⟩ = some (.string ⟨#[]⟩) := by rw [cell_of_block hv]; rfl
    have r0 : Wc.cell? ⟨w.heap.size, 0, none⟩ = some (.int .i64 0) := by rw [cell_of_block hres]; rfl
    have r1 : Wc.cell? ⟨w.heap.size, 1, none⟩ = some (.int .i64 0) := by rw [cell_of_block hres]; rfl
    have r2 : Wc.cell? ⟨w.heap.size, 2, none⟩ = some (.float .f64 0) := by rw [cell_of_block hres]; rfl
    have r3 : Wc.cell? ⟨w.heap.size, 3, none⟩ = some (.string ⟨#[]⟩) := by rw [cell_of_block hres]; rfl
    have y0 : Wc.frozen? ⟨w.heap.size, 0, none⟩ = false := free_of_block hres
    have y1 : Wc.frozen? ⟨w.heap.size, 1, none⟩ = false := free_of_block hres
    have y2 : Wc.frozen? ⟨w.heap.size, 2, none⟩ = false := free_of_block hres
    have y3 : Wc.frozen? ⟨w.heap.size, 3, none⟩ = false := free_of_block hres
    have HF : Hid (((((Wc.setCell ⟨w.heap.size, 0, none⟩ (.int .i64 3)).setCell ⟨w.heap.size, 1, none⟩ (.int .i64 0)).setCell ⟨w.heap.size, 2, none⟩ (.float .f64 G)).setCell ⟨w.heap.size, 3, none⟩ (.string ⟨#[]⟩)).heap[w.heap.size]? = some (.cells #[.int .i64 3, .int .i64 0, .float .f64 G, .string ⟨#[]⟩] 31 (0, 0))) := put4R _ _ _ _ hres
    have HT : Hid (Touch (· = s) w ((((Wc.setCell ⟨w.heap.size, 0, none⟩ (.int .i64 3)).setCell ⟨w.heap.size, 1, none⟩ (.int .i64 0)).setCell ⟨w.heap.size, 2, none⟩ (.float .f64 G)).setCell ⟨w.heap.size, 3, none⟩ (.string ⟨#[]⟩))) := touch4R_new ht _ (Nat.le_refl _) _ _ _ _
    have HRR : Hid (RR ((((Wc.setCell ⟨w.heap.size, 0, none⟩ (.int .i64 3)).setCell ⟨w.heap.size, 1, none⟩ (.int .i64 0)).setCell ⟨w.heap.size, 2, none⟩ (.float .f64 G)).setCell ⟨w.heap.size, 3, none⟩ (.string ⟨#[]⟩)) s g rest 0) := hr.keep (touch4R _ _ _ _ _ _) (by have := HS.out; omega) (fun _ => by have := HS.out; omega)
    clear v0 v1 v2 v3 hres hv hr ht hTc
    go_wp2_with fail
    have f0 := cell_of_block (i := 0) HF.out
    have f1 := cell_of_block (i := 1) HF.out
    have f2 := cell_of_block (i := 2) HF.out
    have f3 := cell_of_block (i := 3) HF.out
    refine bodyPost_ret (v := .agg #[.int .i64 3, .int .i64 0, .float .f64 G, .string ⟨#[]⟩]) ?_ rfl (.inl ⟨HX, rfl, by rw [← hrest.out]; exact HRR.out, HT.out⟩)
    simp [results, Tryd.results7, go_sem, f0, f1, f2, f3]
  case neg =>
    have hz : (C == 0) = false := by simpa using hC
    have HX := HE2.out rfl hC
    go_wp2_with fail
    refine (HCk.out _).mono ?_
    rintro e Wc ⟨rfl, hTc⟩
    have hres := (hTc.block _ (lt_of_heap HRes.out) id).trans HRes.out
    have hr := HR.out.keep hTc id (fun _ => id)
    have HR2 : Hid (RR Wc s g rest 0) := hr
    have HRes2 : Hid (Wc.heap[w.heap.size]? = some (.cells #[.int .i64 0, .int .i64 0, .float .f64 0, .string ⟨#[]⟩] 31)) := hres
    have HTc : Hid (Touch (· = s) w Wc) := HTt.out.then hTc (fun _ _ h => h.elim)
    have hx2 : Wc.cell? ⟨s, 1, none⟩ = some (.int .i64 0) := by
      obtain ⟨_, _, hp, _⟩ := hr
      rw [cell_of_block hp]; rfl
    clear v0 v1 v2 v3 hres hr hTc
    go_wp2_with fail
    refine (refFail_full s g rest 0 _ HR2.out 11).mono ?_
    rintro e Wf ⟨rfl, hr, hTf⟩
    have hres := (hTf.block _ (lt_of_heap HRes2.out) (by have := HS.out; omega)).trans HRes2.out
    have ht : Touch (· = s) w Wf := HTc.out.trans hTf
    rw [if_pos rfl] at hr
    have hx3 : Wf.cell? ⟨s, 1, none⟩ = some (.int .i64 11) := by
      obtain ⟨_, _, hp, _⟩ := hr
      rw [cell_of_block hp]; rfl
    have r0 : Wf.cell? ⟨w.heap.size, 0, none⟩ = some (.int .i64 0) := by rw [cell_of_block hres]; rfl
    have r1 : Wf.cell? ⟨w.heap.size, 1, none⟩ = some (.int .i64 0) := by rw [cell_of_block hres]; rfl
    have r2 : Wf.cell? ⟨w.heap.size, 2, none⟩ = some (.float .f64 0) := by rw [cell_of_block hres]; rfl
    have r3 : Wf.cell? ⟨w.heap.size, 3, none⟩ = some (.string ⟨#[]⟩) := by rw [cell_of_block hres]; rfl
    have y0 : Wf.frozen? ⟨w.heap.size, 0, none⟩ = false := free_of_block hres
    have y1 : Wf.frozen? ⟨w.heap.size, 1, none⟩ = false := free_of_block hres
    have y2 : Wf.frozen? ⟨w.heap.size, 2, none⟩ = false := free_of_block hres
    have y3 : Wf.frozen? ⟨w.heap.size, 3, none⟩ = false := free_of_block hres
    have HF : Hid (((((Wf.setCell ⟨w.heap.size, 0, none⟩ (.int .i64 0)).setCell ⟨w.heap.size, 1, none⟩ (.int .i64 0)).setCell ⟨w.heap.size, 2, none⟩ (.float .f64 0)).setCell ⟨w.heap.size, 3, none⟩ (.string ⟨#[]⟩)).heap[w.heap.size]? = some (.cells #[.int .i64 0, .int .i64 0, .float .f64 0, .string ⟨#[]⟩] 31 (0, 0))) := put4R _ _ _ _ hres
    have HT : Hid (Touch (· = s) w ((((Wf.setCell ⟨w.heap.size, 0, none⟩ (.int .i64 0)).setCell ⟨w.heap.size, 1, none⟩ (.int .i64 0)).setCell ⟨w.heap.size, 2, none⟩ (.float .f64 0)).setCell ⟨w.heap.size, 3, none⟩ (.string ⟨#[]⟩))) := touch4R_new ht _ (Nat.le_refl _) _ _ _ _
    have HRR : Hid (RR ((((Wf.setCell ⟨w.heap.size, 0, none⟩ (.int .i64 0)).setCell ⟨w.heap.size, 1, none⟩ (.int .i64 0)).setCell ⟨w.heap.size, 2, none⟩ (.float .f64 0)).setCell ⟨w.heap.size, 3, none⟩ (.string ⟨#[]⟩)) s g rest 11) := hr.keep (touch4R _ _ _ _ _ _) (by have := HS.out; omega) (fun _ => by have := HS.out; omega)
    clear hres hr ht hTf HR2 HRes2 HTc
    go_wp2_with fail
    have f0 := cell_of_block (i := 0) HF.out
    have f1 := cell_of_block (i := 1) HF.out
    have f2 := cell_of_block (i := 2) HF.out
    have f3 := cell_of_block (i := 3) HF.out
    refine bodyPost_ret (v := .agg #[.int .i64 0, .int .i64 0, .float .f64 0, .string ⟨#[]⟩]) ?_ rfl (.inr ⟨by rw [HX]; decide, rfl, ⟨_, by rw [HX]; exact HRR.out⟩, HT.out⟩)
    simp [results, Tryd.results7, go_sem, f0, f1, f2, f3]

set_option maxHeartbeats 4000000 in
theorem rv_odd (s g : Nat) (bs cs1 : List UInt8) (e1 : Int) (cs2 : List UInt8) (e2 : Int) (G : Nat) (hG : isNaN G = true) (hg : G ≠ nanBits) (ev C : Int) (w : World) (h : RR w s g bs 0) (hgl : g < w.heap.size) (ho2 : rdFixed cs1 e1 = (e2, .int .u64 G, cs2)) (ho : rdByte bs 0 = (e1, .int .u8 3, cs1)) (hC : refCheck ⟨3, 0, G, ⟨#[]⟩⟩ = C) (he1 : ev = if e2 = 0 then 11 else e2) :
    Calls Tryd.prog 7 #[.pointer (some ⟨s, 0, none⟩)] w (RVPost s g cs2 ev ⟨3, 0, G, ⟨#[]⟩⟩ w) := by
  have HS : Hid (s < w.heap.size ∧ g < w.heap.size) := ⟨h.lt, hgl⟩
  have HCk : Hid (∀ w, Calls Tryd.prog 32 #[V.val ⟨3, 0, G, ⟨#[]⟩⟩] w fun e w' => e = .returned (.int .i64 C) ∧ Touch (fun _ => False) w w') := fun w => by
    have := ref_check ⟨3, 0, G, ⟨#[]⟩⟩ (Nat.zero_le _) w
    rw [hC] at this
    exact this
  simp only [V.val] at HCk
  have HR0 : Hid (RR (w.alloc (.cells #[.int .i64 0, .int .i64 0, .float .f64 0, .string ⟨#[]⟩] 31)) s g bs 0) := h.keep (S := fun _ => False) ((Touch.refl _ _).alloc _) id (fun _ => id)
  have HO : Hid (rdByte bs 0 = (e1, .int .u8 3, cs1)) := ho
  have HO2 : Hid (rdFixed cs1 e1 = (e2, .int .u64 G, cs2)) := ho2
  clear h ho hgl hC ho2
  have hfb := f64frombits_run
  have hst := run_store_f64 Tryd.prog
  have HEV : Hid (ev = if e2 = 0 then 11 else e2) := he1
  clear he1
  go_enter Tryd.func7, Tryd.ntmps7
  go_wp2_with fail
  refine (refByte_any s g _ 0 _ HR0.out).mono ?_
  rw [HO.out]
  rintro e w1 ⟨rfl, hR1, hT1⟩
  have hS := HS.out
  have hb1 : w1.heap[w.heap.size]? = some (.cells #[.int .i64 0, .int .i64 0, .float .f64 0, .string ⟨#[]⟩] 31) := (hT1.block _ (by simp) (by omega)).trans (heap_alloc_new _ _)
  have HR1 : Hid (RR (w1.alloc (.cells #[.int .i64 3, .int .i64 0, .float .f64 0, .string ⟨#[]⟩] 31)) s g cs1 e1) := hR1.keep (S := fun _ => False) ((Touch.refl _ _).alloc _) id (fun _ => id)
  have HB1 : Hid ((w1.alloc (.cells #[.int .i64 3, .int .i64 0, .float .f64 0, .string ⟨#[]⟩] 31)).heap[w.heap.size]? = some (.cells #[.int .i64 0, .int .i64 0, .float .f64 0, .string ⟨#[]⟩] 31)) := (Below.heap_alloc _ _ _ (lt_of_heap hb1)).trans hb1
  have HT1 : Hid (Touch (· = s) w (w1.alloc (.cells #[.int .i64 3, .int .i64 0, .float .f64 0, .string ⟨#[]⟩] 31))) := ((((Touch.refl _ w).alloc _)).then hT1 (fun _ _ h => h)).alloc _
  have HL1 : Hid ((w1.alloc (.cells #[.int .i64 3, .int .i64 0, .float .f64 0, .string ⟨#[]⟩] 31)).heap[w1.heap.size]? = some (.cells #[.int .i64 3, .int .i64 0, .float .f64 0, .string ⟨#[]⟩] 31)) := heap_alloc_new _ _
  have HN : Hid (s < w1.heap.size ∧ g < w1.heap.size ∧ w.heap.size < w1.heap.size) := by have := hT1.size; simp at this; exact ⟨by omega, by omega, by omega⟩
  obtain ⟨vb, hvb⟩ : ∃ vb, Hid (vb = w1.heap.size) := ⟨_, Eq.refl _⟩
  obtain ⟨wa, hwa⟩ : ∃ wa, Hid (wa = w1.alloc (.cells #[.int .i64 3, .int .i64 0, .float .f64 0, .string ⟨#[]⟩] 31)) := ⟨_, Eq.refl _⟩
  clear hR1 hT1 hb1 HR0 HO hS
  rw [← hwa.out, ← hvb.out] at HL1
  rw [← hwa.out] at HR1 HB1 HT1
  rw [← hvb.out] at HN
  have l0 : wa.cell? ⟨vb, 0, none⟩ = some (.int .i64 3) := by rw [cell_of_block HL1.out]; rfl
  have l1 : wa.cell? ⟨vb, 1, none⟩ = some (.int .i64 0) := by rw [cell_of_block HL1.out]; rfl
  have l2 : wa.cell? ⟨vb, 2, none⟩ = some (.float .f64 0) := by rw [cell_of_block HL1.out]; rfl
  have l3 : wa.cell? ⟨vb, 3, none⟩ = some (.string ⟨#[]⟩) := by rw [cell_of_block HL1.out]; rfl
  go_wp2_with fail
  rw [← hwa.out, ← hvb.out]
  refine (refFixed_any s g _ e1 _ HR1.out).mono ?_
  rw [HO2.out]
  rintro e w2 ⟨rfl, hR2, hT2⟩
  have hS := HS.out
  have hn := HN.out
  have hb2 := (hT2.block _ (lt_of_heap HB1.out) (by omega)).trans HB1.out
  have hl2 := (hT2.block _ (lt_of_heap HL1.out) (by omega)).trans HL1.out
  have m0 : w2.cell? ⟨vb, 0, none⟩ = some (.int .i64 3) := by rw [cell_of_block hl2]; rfl
  have m1 : w2.cell? ⟨vb, 1, none⟩ = some (.int .i64 0) := by rw [cell_of_block hl2]; rfl
  have m2 : w2.cell? ⟨vb, 2, none⟩ = some (.float .f64 0) := by rw [cell_of_block hl2]; rfl
  have m3 : w2.cell? ⟨vb, 3, none⟩ = some (.string ⟨#[]⟩) := by rw [cell_of_block hl2]; rfl
  have zm : w2.frozen? ⟨vb, 2, none⟩ = false := free_of_block hl2
  have TV : Touch (· = vb) w2 (w2.setCell ⟨vb, 2, none⟩ (.float .f64 G)) := (Touch.refl _ _).setCell ⟨vb, 2, none⟩ _ (fun _ => rfl)
  obtain ⟨Wt, hWt⟩ : ∃ Wt, Hid (Wt = w2.setCell ⟨vb, 2, none⟩ (.float .f64 G)) := ⟨_, Eq.refl _⟩
  have HRes : Hid (Wt.heap[w.heap.size]? = some (.cells #[.int .i64 0, .int .i64 0, .float .f64 0, .string ⟨#[]⟩] 31)) := by rw [hWt.out]; exact ((TV.block _ (lt_of_heap hb2) (by omega)).trans hb2)
  have HV : Hid (Wt.heap[vb]? = some (.cells #[.int .i64 3, .int .i64 0, .float .f64 G, .string ⟨#[]⟩] 31)) := by rw [hWt.out]; exact (by rw [heap_setCell_same _ _ _ _ hl2]; rfl)
  have HR : Hid (RR Wt s g cs2 e2) := by rw [hWt.out]; exact (hR2.keep TV (by omega) (fun _ => by omega))
  have HTt : Hid (Touch (· = s) w Wt) := by rw [hWt.out]; exact ((HT1.out.trans hT2).then TV (fun k hk e => by omega))
  clear hb2 hl2 hR2 hT2 TV hn hS HR1 HB1 HT1 HL1
  have hsn := self_neq G
  rw [hG] at hsn
  have hnn : (((G : Nat) : Int) == 9221120237041090560) = false := by rw [beq_eq_false_iff_ne]; intro h; apply hg; unfold nanBits; omega
  clear hg hG
  go_wp2_with fail
  rw [← hWt.out]
  refine (refFail_full s g cs2 e2 _ HR.out 11).mono ?_
  rintro e w3 ⟨rfl, hR3, hT3⟩
  have HR3 : Hid (RR w3 s g cs2 (if e2 = 0 then 11 else e2)) := hR3
  have HRes3 : Hid (w3.heap[w.heap.size]? = some (.cells #[.int .i64 0, .int .i64 0, .float .f64 0, .string ⟨#[]⟩] 31)) := (hT3.block _ (lt_of_heap HRes.out) (by have := HS.out; omega)).trans HRes.out
  have HV3 : Hid (w3.heap[vb]? = some (.cells #[.int .i64 3, .int .i64 0, .float .f64 G, .string ⟨#[]⟩] 31)) := (hT3.block _ (lt_of_heap HV.out) (by have := HN.out; omega)).trans HV.out
  have HTt3 : Hid (Touch (· = s) w w3) := HTt.out.trans hT3
  clear hR3 hT3 HR HRes HV HTt hWt m0 m1 m2 m3 zm l0 l1 l2 l3 hwa hvb hsn hnn
  have HR := HR3
  have HRes := HRes3
  have HV := HV3
  have HTt := HTt3
  clear HR3 HRes3 HV3 HTt3
  obtain ⟨Wx, hWx⟩ : ∃ Wx, Hid (Wx = w3) := ⟨_, Eq.refl _⟩
  obtain ⟨x, hxx⟩ : ∃ x, Hid (x = if e2 = 0 then 11 else e2) := ⟨_, Eq.refl _⟩
  rw [← hxx.out] at HR HEV
  have hxn : x ≠ 0 := by
    rw [hxx.out]
    by_cases h : e2 = 0
    · rw [if_pos h]; decide
    · rw [if_neg h]; exact h
  have HE1 : Hid (x ≠ 0 → ev = x) := fun _ => HEV.out
  have HE2 : Hid (x = 0 → C ≠ 0 → ev = 11) := fun h => absurd h hxn
  have HE3 : Hid (x = 0 → C = 0 → ev = 0) := fun h => absurd h hxn
  clear hxn
  obtain ⟨rest, hrest⟩ : ∃ rest, Hid (rest = cs2) := ⟨_, Eq.refl _⟩
  rw [← hrest.out] at HR
  go_upto_region 17 with fail
  have v0 : w3.cell? ⟨vb, 0, none⟩ = some (.int .i64 3) := by rw [cell_of_block HV.out]; rfl
  have v1 : w3.cell? ⟨vb, 1, none⟩ = some (.int .i64 0) := by rw [cell_of_block HV.out]; rfl
  have v2 : w3.cell? ⟨vb, 2, none⟩ = some (.float .f64 G) := by rw [cell_of_block HV.out]; rfl
  have v3 : w3.cell? ⟨vb, 3, none⟩ = some (.string ⟨#[]⟩) := by rw [cell_of_block HV.out]; rfl
  have hx1 : w3.cell? ⟨s, 1, none⟩ = some (.int .i64 x) := by
    obtain ⟨_, _, hp, _⟩ := HR.out
    rw [cell_of_block hp]; rfl
  by_cases hx : x = 0
  case neg =>
    have hz : (x == 0) = false := by simpa using hx
    have HX := HE1.out hx
    have r0 : w3.cell? ⟨w.heap.size, 0, none⟩ = some (.int .i64 0) := by rw [cell_of_block HRes.out]; rfl
    have r1 : w3.cell? ⟨w.heap.size, 1, none⟩ = some (.int .i64 0) := by rw [cell_of_block HRes.out]; rfl
    have r2 : w3.cell? ⟨w.heap.size, 2, none⟩ = some (.float .f64 0) := by rw [cell_of_block HRes.out]; rfl
    have r3 : w3.cell? ⟨w.heap.size, 3, none⟩ = some (.string ⟨#[]⟩) := by rw [cell_of_block HRes.out]; rfl
    have y0 : w3.frozen? ⟨w.heap.size, 0, none⟩ = false := free_of_block HRes.out
    have y1 : w3.frozen? ⟨w.heap.size, 1, none⟩ = false := free_of_block HRes.out
    have y2 : w3.frozen? ⟨w.heap.size, 2, none⟩ = false := free_of_block HRes.out
    have y3 : w3.frozen? ⟨w.heap.size, 3, none⟩ = false := free_of_block HRes.out
    have HF : Hid (((((w3.setCell ⟨w.heap.size, 0, none⟩ (.int .i64 0)).setCell ⟨w.heap.size, 1, none⟩ (.int .i64 0)).setCell ⟨w.heap.size, 2, none⟩ (.float .f64 0)).setCell ⟨w.heap.size, 3, none⟩ (.string ⟨#[]⟩)).heap[w.heap.size]? = some (.cells #[.int .i64 0, .int .i64 0, .float .f64 0, .string ⟨#[]⟩] 31 (0, 0))) := put4R _ _ _ _ HRes.out
    have HT : Hid (Touch (· = s) w ((((w3.setCell ⟨w.heap.size, 0, none⟩ (.int .i64 0)).setCell ⟨w.heap.size, 1, none⟩ (.int .i64 0)).setCell ⟨w.heap.size, 2, none⟩ (.float .f64 0)).setCell ⟨w.heap.size, 3, none⟩ (.string ⟨#[]⟩))) := touch4R_new HTt.out _ (Nat.le_refl _) _ _ _ _
    have HRR : Hid (RR ((((w3.setCell ⟨w.heap.size, 0, none⟩ (.int .i64 0)).setCell ⟨w.heap.size, 1, none⟩ (.int .i64 0)).setCell ⟨w.heap.size, 2, none⟩ (.float .f64 0)).setCell ⟨w.heap.size, 3, none⟩ (.string ⟨#[]⟩)) s g rest x) := HR.out.keep (touch4R _ _ _ _ _ _) (by have := HS.out; omega) (fun _ => by have := HS.out; omega)
    clear v0 v1 v2 v3
    go_wp2_with fail
    have f0 := cell_of_block (i := 0) HF.out
    have f1 := cell_of_block (i := 1) HF.out
    have f2 := cell_of_block (i := 2) HF.out
    have f3 := cell_of_block (i := 3) HF.out
    refine bodyPost_ret (v := .agg #[.int .i64 0, .int .i64 0, .float .f64 0, .string ⟨#[]⟩]) ?_ rfl (.inr ⟨by rw [HX]; exact hx, rfl, ⟨_, by rw [HX]; exact HRR.out⟩, HT.out⟩)
    simp [results, Tryd.results7, go_sem, f0, f1, f2, f3]
  subst hx
  by_cases hC : C = 0
  case pos =>
    subst hC
    have HX := HE3.out rfl rfl
    go_wp2_with fail
    refine (HCk.out _).mono ?_
    rintro e Wc ⟨rfl, hTc⟩
    have hres := (hTc.block _ (lt_of_heap HRes.out) id).trans HRes.out
    have hv := (hTc.block _ (lt_of_heap HV.out) id).trans HV.out
    have hr := HR.out.keep hTc id (fun _ => id)
    have ht : Touch (· = s) w Wc := HTt.out.then hTc (fun _ _ h => h.elim)
    have hx2 : Wc.cell? ⟨s, 1, none⟩ = some (.int .i64 0) := by
      obtain ⟨_, _, hp, _⟩ := hr
      rw [cell_of_block hp]; rfl
    have u0 : Wc.cell? ⟨vb, 0, none⟩ = some (.int .i64 3) := by rw [cell_of_block hv]; rfl
    have u1 : Wc.cell? ⟨vb, 1, none⟩ = some (.int .i64 0) := by rw [cell_of_block hv]; rfl
    have u2 : Wc.cell? ⟨vb, 2, none⟩ = some (.float .f64 G) := by rw [cell_of_block hv]; rfl
    have u3 : Wc.cell? ⟨vb, 3, none⟩ = some (.string ⟨#[]⟩) := by rw [cell_of_block hv]; rfl
    have r0 : Wc.cell? ⟨w.heap.size, 0, none⟩ = some (.int .i64 0) := by rw [cell_of_block hres]; rfl
    have r1 : Wc.cell? ⟨w.heap.size, 1, none⟩ = some (.int .i64 0) := by rw [cell_of_block hres]; rfl
    have r2 : Wc.cell? ⟨w.heap.size, 2, none⟩ = some (.float .f64 0) := by rw [cell_of_block hres]; rfl
    have r3 : Wc.cell? ⟨w.heap.size, 3, none⟩ = some (.string ⟨#[]⟩) := by rw [cell_of_block hres]; rfl
    have y0 : Wc.frozen? ⟨w.heap.size, 0, none⟩ = false := free_of_block hres
    have y1 : Wc.frozen? ⟨w.heap.size, 1, none⟩ = false := free_of_block hres
    have y2 : Wc.frozen? ⟨w.heap.size, 2, none⟩ = false := free_of_block hres
    have y3 : Wc.frozen? ⟨w.heap.size, 3, none⟩ = false := free_of_block hres
    have HF : Hid (((((Wc.setCell ⟨w.heap.size, 0, none⟩ (.int .i64 3)).setCell ⟨w.heap.size, 1, none⟩ (.int .i64 0)).setCell ⟨w.heap.size, 2, none⟩ (.float .f64 G)).setCell ⟨w.heap.size, 3, none⟩ (.string ⟨#[]⟩)).heap[w.heap.size]? = some (.cells #[.int .i64 3, .int .i64 0, .float .f64 G, .string ⟨#[]⟩] 31 (0, 0))) := put4R _ _ _ _ hres
    have HT : Hid (Touch (· = s) w ((((Wc.setCell ⟨w.heap.size, 0, none⟩ (.int .i64 3)).setCell ⟨w.heap.size, 1, none⟩ (.int .i64 0)).setCell ⟨w.heap.size, 2, none⟩ (.float .f64 G)).setCell ⟨w.heap.size, 3, none⟩ (.string ⟨#[]⟩))) := touch4R_new ht _ (Nat.le_refl _) _ _ _ _
    have HRR : Hid (RR ((((Wc.setCell ⟨w.heap.size, 0, none⟩ (.int .i64 3)).setCell ⟨w.heap.size, 1, none⟩ (.int .i64 0)).setCell ⟨w.heap.size, 2, none⟩ (.float .f64 G)).setCell ⟨w.heap.size, 3, none⟩ (.string ⟨#[]⟩)) s g rest 0) := hr.keep (touch4R _ _ _ _ _ _) (by have := HS.out; omega) (fun _ => by have := HS.out; omega)
    clear v0 v1 v2 v3 hres hv hr ht hTc
    go_wp2_with fail
    have f0 := cell_of_block (i := 0) HF.out
    have f1 := cell_of_block (i := 1) HF.out
    have f2 := cell_of_block (i := 2) HF.out
    have f3 := cell_of_block (i := 3) HF.out
    refine bodyPost_ret (v := .agg #[.int .i64 3, .int .i64 0, .float .f64 G, .string ⟨#[]⟩]) ?_ rfl (.inl ⟨HX, rfl, by rw [← hrest.out]; exact HRR.out, HT.out⟩)
    simp [results, Tryd.results7, go_sem, f0, f1, f2, f3]
  case neg =>
    have hz : (C == 0) = false := by simpa using hC
    have HX := HE2.out rfl hC
    go_wp2_with fail
    refine (HCk.out _).mono ?_
    rintro e Wc ⟨rfl, hTc⟩
    have hres := (hTc.block _ (lt_of_heap HRes.out) id).trans HRes.out
    have hr := HR.out.keep hTc id (fun _ => id)
    have HR2 : Hid (RR Wc s g rest 0) := hr
    have HRes2 : Hid (Wc.heap[w.heap.size]? = some (.cells #[.int .i64 0, .int .i64 0, .float .f64 0, .string ⟨#[]⟩] 31)) := hres
    have HTc : Hid (Touch (· = s) w Wc) := HTt.out.then hTc (fun _ _ h => h.elim)
    have hx2 : Wc.cell? ⟨s, 1, none⟩ = some (.int .i64 0) := by
      obtain ⟨_, _, hp, _⟩ := hr
      rw [cell_of_block hp]; rfl
    clear v0 v1 v2 v3 hres hr hTc
    go_wp2_with fail
    refine (refFail_full s g rest 0 _ HR2.out 11).mono ?_
    rintro e Wf ⟨rfl, hr, hTf⟩
    have hres := (hTf.block _ (lt_of_heap HRes2.out) (by have := HS.out; omega)).trans HRes2.out
    have ht : Touch (· = s) w Wf := HTc.out.trans hTf
    rw [if_pos rfl] at hr
    have hx3 : Wf.cell? ⟨s, 1, none⟩ = some (.int .i64 11) := by
      obtain ⟨_, _, hp, _⟩ := hr
      rw [cell_of_block hp]; rfl
    have r0 : Wf.cell? ⟨w.heap.size, 0, none⟩ = some (.int .i64 0) := by rw [cell_of_block hres]; rfl
    have r1 : Wf.cell? ⟨w.heap.size, 1, none⟩ = some (.int .i64 0) := by rw [cell_of_block hres]; rfl
    have r2 : Wf.cell? ⟨w.heap.size, 2, none⟩ = some (.float .f64 0) := by rw [cell_of_block hres]; rfl
    have r3 : Wf.cell? ⟨w.heap.size, 3, none⟩ = some (.string ⟨#[]⟩) := by rw [cell_of_block hres]; rfl
    have y0 : Wf.frozen? ⟨w.heap.size, 0, none⟩ = false := free_of_block hres
    have y1 : Wf.frozen? ⟨w.heap.size, 1, none⟩ = false := free_of_block hres
    have y2 : Wf.frozen? ⟨w.heap.size, 2, none⟩ = false := free_of_block hres
    have y3 : Wf.frozen? ⟨w.heap.size, 3, none⟩ = false := free_of_block hres
    have HF : Hid (((((Wf.setCell ⟨w.heap.size, 0, none⟩ (.int .i64 0)).setCell ⟨w.heap.size, 1, none⟩ (.int .i64 0)).setCell ⟨w.heap.size, 2, none⟩ (.float .f64 0)).setCell ⟨w.heap.size, 3, none⟩ (.string ⟨#[]⟩)).heap[w.heap.size]? = some (.cells #[.int .i64 0, .int .i64 0, .float .f64 0, .string ⟨#[]⟩] 31 (0, 0))) := put4R _ _ _ _ hres
    have HT : Hid (Touch (· = s) w ((((Wf.setCell ⟨w.heap.size, 0, none⟩ (.int .i64 0)).setCell ⟨w.heap.size, 1, none⟩ (.int .i64 0)).setCell ⟨w.heap.size, 2, none⟩ (.float .f64 0)).setCell ⟨w.heap.size, 3, none⟩ (.string ⟨#[]⟩))) := touch4R_new ht _ (Nat.le_refl _) _ _ _ _
    have HRR : Hid (RR ((((Wf.setCell ⟨w.heap.size, 0, none⟩ (.int .i64 0)).setCell ⟨w.heap.size, 1, none⟩ (.int .i64 0)).setCell ⟨w.heap.size, 2, none⟩ (.float .f64 0)).setCell ⟨w.heap.size, 3, none⟩ (.string ⟨#[]⟩)) s g rest 11) := hr.keep (touch4R _ _ _ _ _ _) (by have := HS.out; omega) (fun _ => by have := HS.out; omega)
    clear hres hr ht hTf HR2 HRes2 HTc
    go_wp2_with fail
    have f0 := cell_of_block (i := 0) HF.out
    have f1 := cell_of_block (i := 1) HF.out
    have f2 := cell_of_block (i := 2) HF.out
    have f3 := cell_of_block (i := 3) HF.out
    refine bodyPost_ret (v := .agg #[.int .i64 0, .int .i64 0, .float .f64 0, .string ⟨#[]⟩]) ?_ rfl (.inr ⟨by rw [HX]; decide, rfl, ⟨_, by rw [HX]; exact HRR.out⟩, HT.out⟩)
    simp [results, Tryd.results7, go_sem, f0, f1, f2, f3]
end Go.Proofs.YtkiicdleoniioaaDoor

/- The contracts of value's writable and Read, on bytes that Write wrote. -/
import Derived.Test.YtaihofkmcpcjeaaDoorReadParts
import Derived.Test.YtaihofkmcpcjeaaDoorVCheck
import Derived.Test.YtaihofkmcpcjeaaDoorPart10
import Derived.Test.YtaihofkmcpcjeaaDoorClone
import Derived.Deep.RegionHeld3
namespace Go.Proofs.YtaihofkmcpcjeaaDoor
open Go.RowKit
set_option linter.unusedVariables false
set_option linter.unusedSimpArgs false
set_option maxRecDepth 100000

theorem TabsU.keepS {S : Nat → Prop} {w w' : World} (h : TabsU w) (hT : Touch S w w') (h3 : ¬ S (Tryd.lays196_ren.g 3)) (h4 : ¬ S (Tryd.lays196_ren.g 4)) : TabsU w' := by
  have go : ∀ (b o : Nat) (v : Value), ¬ S b → w.cell? ⟨b, o, none⟩ = some v → w'.cell? ⟨b, o, none⟩ = some v := fun b o v hb hv => (hT.cell (World.block_lt_of_cell? _ _ hv) hb o).trans hv
  exact ⟨fun c hc => go _ _ _ h3 (h.1 c hc), fun i hi => ⟨go _ _ _ h4 (h.2 i hi).1, go _ _ _ h4 (h.2 i hi).2⟩⟩

set_option maxHeartbeats 1000000 in
theorem v_writable (v : V) (hs : v.s.size ≤ 9223372036854775807) (h : refCheck v = 0) (hb : refBits v.f = v.f) (w : World) (hU : TabsU w) : Calls Tryd.prog 59 #[v.val] w fun e w' => e = .returned (.bool true) ∧ Touch (fun _ => False) w w' := by
  have HU : Hid (TabsU w) := hU
  have HCk : Hid (∀ w, TabsU w → Calls Tryd.prog 12 #[v.val] w fun e w' => e = .returned (.int .i64 0) ∧ Touch (fun _ => False) w w') := by
    intro w hw
    have := v_check v hs w hw
    rw [h] at this
    exact this
  have HN : Hid (∀ w, Calls Tryd.prog 37 #[.float .f64 v.f] w fun e w' => e = .returned (.float .f64 v.f) ∧ w' = w) := by
    intro w
    have := v_oneNaN v.f w
    rw [hb] at this
    exact this
  clear h hb hU hs
  obtain ⟨k, n, f, s⟩ := v
  simp only [V.val] at *
  have hfb := f64bits_run
  have ef : ((f : Int) == (f : Int)) = true := by simp
  go_enter Tryd.func59, Tryd.ntmps59
  go_wp2_with fail
  have hb1 := boxes1_keep (w0 := w) (A := w.heap.size) (w := w.alloc (.cells #[.int .i64 k, .int .i64 n, .float .f64 f, .string s] 24)) (w' := (w.alloc (.cells #[.int .i64 k, .int .i64 n, .float .f64 f, .string s] 24)).drew) ⟨new1 _ _ _ 0, new1 _ _ _ 1, new1 _ _ _ 2, new1 _ _ _ 3, (Touch.refl _ _).alloc _⟩ (Touch.refl _ _).drew
  go_region_held3 (fun w' => w'.cell? ⟨w.heap.size, 0, none⟩ = some (.int .i64 k) ∧ w'.cell? ⟨w.heap.size, 1, none⟩ = some (.int .i64 n) ∧ w'.cell? ⟨w.heap.size, 2, none⟩ = some (.float .f64 f) ∧ w'.cell? ⟨w.heap.size, 3, none⟩ = some (.string s) ∧ Hid (Touch (fun _ => False) w w')) (assumption)
    (first
      | (go_at_call 12; (with_reducible refine (HCk.out _ (HU.out.keep (boxes1_touch (by assumption)))).mono ?_); rintro e w' ⟨rfl, hT⟩; have hS2 := boxes1_keep (by assumption) hT; clear hT)
      | (go_at_call 37; (with_reducible refine (HN.out _).mono ?_); rintro e w' ⟨rfl, rfl⟩))
  have HT5 := boxes1_touch hS2
  have HT6 : Hid (Touch (fun _ => False) w _) := HT5
  clear HT5 hS2 hb1
  go_wp2_with fail
  go_ret
  exact ⟨rfl, HT6.out⟩

/-- A value that is taken, cleaned: is taken. -/
theorem clean_taken {v : V} (hv : v.taken) (h : refCheck v = 0) : refCheck ⟨v.k, v.n, refBits v.f, v.s⟩ = 0 := by
  obtain ⟨k, n, f, s⟩ := v
  by_cases e : k = 3
  · subst e
    have : vOk ⟨3, n, refBits f, s⟩ = vOk ⟨3, n, f, s⟩ := by unfold vOk; rfl
    unfold refCheck at *
    rw [this]; exact h
  · have := hv.f e
    simp only at this
    subst this
    rw [show refBits 0 = 0 from by decide]; exact h

set_option maxHeartbeats 1000000 in
theorem v_read_good (p g : Nat) (x : V) (hx : x.taken) (hc : refCheck x = 0) (hs4 : x.s.size ≤ 4096) (more : List UInt8) (w : World) (h : Rd w p g (writeOf x ++ more) 0) (hU : TabsU w) (h3 : p ≠ Tryd.lays196_ren.g 3) (h4 : p ≠ Tryd.lays196_ren.g 4) :
    Calls Tryd.prog 27 #[.pointer (some ⟨p, 0, none⟩)] w fun e w' => e = .returned (V.val ⟨x.k, x.n, refBits x.f, x.s⟩) ∧ Rd w' p g more 0 ∧ Touch (· = p) w w' := by
  have HP : Hid (∀ w, Rd w p g (writeOf x ++ more) 0 → Calls Tryd.prog 58 #[.pointer (some ⟨p, 0, none⟩)] w fun e w' => e = .returned (V.val ⟨x.k, x.n, refBits x.f, x.s⟩) ∧ Rd w' p g more 0 ∧ Touch (· = p) w w') := fun w h => parts_any p g x hx hs4 more w h
  have HW : Hid (∀ w, TabsU w → Calls Tryd.prog 59 #[V.val ⟨x.k, x.n, refBits x.f, x.s⟩] w fun e w' => e = .returned (.bool true) ∧ Touch (fun _ => False) w w') := fun w hw => v_writable ⟨x.k, x.n, refBits x.f, x.s⟩ (by simp only; omega) (clean_taken hx hc) (refBits_idem x.f) w hw
  have hp := h.lt
  have hg := h.ltBytes
  generalize writeOf x ++ more = bs at *
  generalize x.k = k at *
  generalize x.n = n at *
  generalize refBits x.f = f at *
  generalize x.s = s at *
  clear hx hc hs4
  simp only [V.val] at *
  obtain ⟨ao, cap, hpc, hlc, hcc, hLi, hgl⟩ := h
  have HR0 : Hid (Rd w p g bs 0) := ⟨ao, cap, hpc, hlc, hcc, hLi, hgl⟩
  have HU : Hid (TabsU w) := hU
  have H34 : Hid (p ≠ Tryd.lays196_ren.g 3 ∧ p ≠ Tryd.lays196_ren.g 4) := ⟨h3, h4⟩
  have c0 : w.cell? ⟨p, 0, none⟩ = some (.slice ao bs.length cap) := by rw [cell_of_block hpc]; rfl
  have c1 : w.cell? ⟨p, 1, none⟩ = some (.int .i64 0) := by rw [cell_of_block hpc]; rfl
  have a0 := old1 (.cells #[.int .i64 0, .int .i64 0, .float .f64 0, .string ⟨#[]⟩] 24) c0
  have a1 := old1 (.cells #[.int .i64 0, .int .i64 0, .float .f64 0, .string ⟨#[]⟩] 24) c1
  have HPG : Hid (p < w.heap.size ∧ g < w.heap.size) := ⟨hp, hg⟩
  clear hp hg hpc hlc hcc hLi hgl hU h3 h4 c0 c1
  have hnot : ∀ (x : Bool) (w : World), (Op.unary .not (.bool x)).run Tryd.prog w = .ok (.bool (!x)) w := fun _ _ => rfl
  have hst := run_store_f64 Tryd.prog
  go_enter Tryd.func27, Tryd.ntmps27
  go_wp2_with fail
  refine (HP.out _ ((HR0.out.alloc _).alloc _)).mono ?_
  rintro e w1 ⟨rfl, hR1, hT1⟩
  obtain ⟨hp, hg⟩ := HPG.out
  have hz := hT1.size
  have hb1 : w1.heap[w.heap.size]? = some (.cells #[.int .i64 0, .int .i64 0, .float .f64 0, .string ⟨#[]⟩] 24) := (hT1.block _ (by simp; omega) (by omega)).trans ((Below.heap_alloc _ _ _ (by simp)).trans (heap_alloc_new _ _))
  have hlt1 := lt_of_heap hb1
  have hTw : Touch (· = p) w w1 := (((Touch.refl _ w).alloc _).alloc _).then hT1 (fun _ _ h => h)
  have HU1 : Hid (TabsU (w1.alloc (.cells #[.int .i64 k, .int .i64 n, .float .f64 f, .string s] 24))) := (HU.out.keepS hTw (Ne.symm H34.out.1) (Ne.symm H34.out.2)).keep ((Touch.refl _ _).alloc _)
  have HR1 : Hid (Rd (w1.alloc (.cells #[.int .i64 k, .int .i64 n, .float .f64 f, .string s] 24)) p g more 0) := hR1.alloc _
  have HB1 : Hid ((w1.alloc (.cells #[.int .i64 k, .int .i64 n, .float .f64 f, .string s] 24)).heap[w.heap.size]? = some (.cells #[.int .i64 0, .int .i64 0, .float .f64 0, .string ⟨#[]⟩] 24)) := (Below.heap_alloc _ _ _ hlt1).trans hb1
  have HL1 : Hid ((w1.alloc (.cells #[.int .i64 k, .int .i64 n, .float .f64 f, .string s] 24)).heap[w1.heap.size]? = some (.cells #[.int .i64 k, .int .i64 n, .float .f64 f, .string s] 24)) := heap_alloc_new _ _
  have HT1 : Hid (Touch (· = p) w (w1.alloc (.cells #[.int .i64 k, .int .i64 n, .float .f64 f, .string s] 24))) := hTw.alloc _
  have HPG2 : Hid (p < w.heap.size ∧ g < w.heap.size ∧ w.heap.size < w1.heap.size) := ⟨hp, hg, hlt1⟩
  clear hR1 hT1 hb1 HR0 hz hTw HU H34 HP hp hg hlt1 HPG a0 a1
  go_wp2_with fail
  refine (err_any p g more 0 _ HR1.out).mono ?_
  rintro e w2 ⟨rfl, hw2⟩
  rw [hw2]
  clear hw2
  go_wp2_with fail
  refine (HW.out _ HU1.out).mono ?_
  rintro e w2 ⟨rfl, hT2⟩
  obtain ⟨hp, hg, hlt1⟩ := HPG2.out
  have hb2 : w2.heap[w.heap.size]? = some (.cells #[.int .i64 0, .int .i64 0, .float .f64 0, .string ⟨#[]⟩] 24) := (hT2.block _ (lt_of_heap HB1.out) id).trans HB1.out
  have hl2 : w2.heap[w1.heap.size]? = some (.cells #[.int .i64 k, .int .i64 n, .float .f64 f, .string s] 24) := (hT2.block _ (lt_of_heap HL1.out) id).trans HL1.out
  have hR2 : Rd w2 p g more 0 := HR1.out.keep hT2 id (fun _ => id)
  have hTT : Touch (· = p) w w2 := HT1.out.then hT2 (fun _ _ h => h.elim)
  have m0 : w2.cell? ⟨w1.heap.size, 0, none⟩ = some (.int .i64 k) := by rw [cell_of_block hl2]; rfl
  have m1 : w2.cell? ⟨w1.heap.size, 1, none⟩ = some (.int .i64 n) := by rw [cell_of_block hl2]; rfl
  have m2 : w2.cell? ⟨w1.heap.size, 2, none⟩ = some (.float .f64 f) := by rw [cell_of_block hl2]; rfl
  have m3 : w2.cell? ⟨w1.heap.size, 3, none⟩ = some (.string s) := by rw [cell_of_block hl2]; rfl
  have r0 : w2.cell? ⟨w.heap.size, 0, none⟩ = some (.int .i64 0) := by rw [cell_of_block hb2]; rfl
  have r1 : w2.cell? ⟨w.heap.size, 1, none⟩ = some (.int .i64 0) := by rw [cell_of_block hb2]; rfl
  have r2 : w2.cell? ⟨w.heap.size, 2, none⟩ = some (.float .f64 0) := by rw [cell_of_block hb2]; rfl
  have r3 : w2.cell? ⟨w.heap.size, 3, none⟩ = some (.string ⟨#[]⟩) := by rw [cell_of_block hb2]; rfl
  have y0 : w2.frozen? ⟨w.heap.size, 0, none⟩ = false := free_of_block hb2
  have y1 : w2.frozen? ⟨w.heap.size, 1, none⟩ = false := free_of_block hb2
  have y2 : w2.frozen? ⟨w.heap.size, 2, none⟩ = false := free_of_block hb2
  have y3 : w2.frozen? ⟨w.heap.size, 3, none⟩ = false := free_of_block hb2
  have HF : Hid (((((w2.setCell ⟨w.heap.size, 0, none⟩ (.int .i64 k)).setCell ⟨w.heap.size, 1, none⟩ (.int .i64 n)).setCell ⟨w.heap.size, 2, none⟩ (.float .f64 f)).setCell ⟨w.heap.size, 3, none⟩ (.string s)).heap[w.heap.size]? = some (.cells #[.int .i64 k, .int .i64 n, .float .f64 f, .string s] 24 (0, 0))) := put4 _ _ _ _ hb2
  have HT : Hid (Touch (· = p) w ((((w2.setCell ⟨w.heap.size, 0, none⟩ (.int .i64 k)).setCell ⟨w.heap.size, 1, none⟩ (.int .i64 n)).setCell ⟨w.heap.size, 2, none⟩ (.float .f64 f)).setCell ⟨w.heap.size, 3, none⟩ (.string s))) := touch4_new hTT _ (Nat.le_refl _) _ _ _ _
  have HR : Hid (Rd ((((w2.setCell ⟨w.heap.size, 0, none⟩ (.int .i64 k)).setCell ⟨w.heap.size, 1, none⟩ (.int .i64 n)).setCell ⟨w.heap.size, 2, none⟩ (.float .f64 f)).setCell ⟨w.heap.size, 3, none⟩ (.string s)) p g more 0) := hR2.keep (touch4 _ _ _ _ _ _) (by omega) (fun _ => by omega)
  clear hp hg hlt1 hb2 hl2 hR2 hTT hT2 HB1 HL1 HR1 HT1 HU1 HW HPG2
  go_wp2_with fail
  have f0 := cell_of_block (i := 0) HF.out
  have f1 := cell_of_block (i := 1) HF.out
  have f2 := cell_of_block (i := 2) HF.out
  have f3 := cell_of_block (i := 3) HF.out
  refine bodyPost_ret (v := .agg #[.int .i64 k, .int .i64 n, .float .f64 f, .string s]) ?_ rfl ⟨rfl, HR.out, HT.out⟩
  simp [results, Tryd.results27, go_sem, f0, f1, f2, f3]
end Go.Proofs.YtaihofkmcpcjeaaDoor

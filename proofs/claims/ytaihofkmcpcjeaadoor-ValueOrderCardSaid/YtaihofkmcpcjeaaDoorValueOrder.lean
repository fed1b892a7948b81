/- The contract of quirelaw2.ValueOrder. -/
import Derived.Test.YtaihofkmcpcjeaaDoorKnown2
import Derived.Test.YtaihofkmcpcjeaaDoorLight
import Derived.Test.YtaihofkmcpcjeaaDoorOrdLaws
import Derived.Test.YtaihofkmcpcjeaaDoorRef2b
import Derived.Test.YtaihofkmcpcjeaaDoorIsVal
namespace Go.Proofs.YtaihofkmcpcjeaaDoor
open Go.RowKit
set_option linter.unusedVariables false
set_option maxRecDepth 100000

theorem new3 (w : World) (c1 c2 c3 : Array Value) {t : TypeId} : (∀ i, (((w.alloc (.cells c1 t)).alloc (.cells c2 t)).alloc (.cells c3 t)).cell? ⟨w.heap.size, i, none⟩ = c1[i]?) ∧ (∀ i, (((w.alloc (.cells c1 t)).alloc (.cells c2 t)).alloc (.cells c3 t)).cell? ⟨w.heap.size + 1, i, none⟩ = c2[i]?) ∧ (∀ i, (((w.alloc (.cells c1 t)).alloc (.cells c2 t)).alloc (.cells c3 t)).cell? ⟨w.heap.size + 1 + 1, i, none⟩ = c3[i]?) := by
  have e1 : (w.alloc (.cells c1 t)).heap.size = w.heap.size + 1 := by simp
  have e2 : ((w.alloc (.cells c1 t)).alloc (.cells c2 t)).heap.size = w.heap.size + 1 + 1 := by simp
  refine ⟨fun i => ?_, fun i => ?_, fun i => ?_⟩
  · refine cell_of_block (t := t) (fr := (0, 0)) ?_
    rw [Below.heap_alloc _ _ _ (by rw [e2]; omega), Below.heap_alloc _ _ _ (by rw [e1]; omega)]
    exact heap_alloc_new _ _
  · refine cell_of_block (t := t) (fr := (0, 0)) ?_
    rw [Below.heap_alloc _ _ _ (by rw [e2]; omega)]
    have := heap_alloc_new (w.alloc (.cells c1 t)) (.cells c2 t)
    rwa [e1] at this
  · refine cell_of_block (t := t) (fr := (0, 0)) ?_
    have := heap_alloc_new ((w.alloc (.cells c1 t)).alloc (.cells c2 t)) (.cells c3 t)
    rwa [e2] at this

/-- Three boxes that hold three values, and nothing touched since. -/
theorem box3_keep {w0 w w' : World} {B : Nat} {k n k2 n2 k3 n3 : Int} {f f2 f3 : Nat} {s s2 s3 : ByteArray}
    (h : w.cell? ⟨B, 0, none⟩ = some (.int .i64 k) ∧ w.cell? ⟨B, 1, none⟩ = some (.int .i64 n) ∧ w.cell? ⟨B, 2, none⟩ = some (.float .f64 f) ∧ w.cell? ⟨B, 3, none⟩ = some (.string s) ∧ w.cell? ⟨B + 1, 0, none⟩ = some (.int .i64 k2) ∧ w.cell? ⟨B + 1, 1, none⟩ = some (.int .i64 n2) ∧ w.cell? ⟨B + 1, 2, none⟩ = some (.float .f64 f2) ∧ w.cell? ⟨B + 1, 3, none⟩ = some (.string s2) ∧ w.cell? ⟨B + 1 + 1, 0, none⟩ = some (.int .i64 k3) ∧ w.cell? ⟨B + 1 + 1, 1, none⟩ = some (.int .i64 n3) ∧ w.cell? ⟨B + 1 + 1, 2, none⟩ = some (.float .f64 f3) ∧ w.cell? ⟨B + 1 + 1, 3, none⟩ = some (.string s3) ∧ Hid (Touch (fun _ => False) w0 w)) (hT : Touch (fun _ => False) w w') :
    w'.cell? ⟨B, 0, none⟩ = some (.int .i64 k) ∧ w'.cell? ⟨B, 1, none⟩ = some (.int .i64 n) ∧ w'.cell? ⟨B, 2, none⟩ = some (.float .f64 f) ∧ w'.cell? ⟨B, 3, none⟩ = some (.string s) ∧ w'.cell? ⟨B + 1, 0, none⟩ = some (.int .i64 k2) ∧ w'.cell? ⟨B + 1, 1, none⟩ = some (.int .i64 n2) ∧ w'.cell? ⟨B + 1, 2, none⟩ = some (.float .f64 f2) ∧ w'.cell? ⟨B + 1, 3, none⟩ = some (.string s2) ∧ w'.cell? ⟨B + 1 + 1, 0, none⟩ = some (.int .i64 k3) ∧ w'.cell? ⟨B + 1 + 1, 1, none⟩ = some (.int .i64 n3) ∧ w'.cell? ⟨B + 1 + 1, 2, none⟩ = some (.float .f64 f3) ∧ w'.cell? ⟨B + 1 + 1, 3, none⟩ = some (.string s3) ∧ Hid (Touch (fun _ => False) w0 w') := by
  have go : ∀ (b o : Nat) (v : Value), w.cell? ⟨b, o, none⟩ = some v → w'.cell? ⟨b, o, none⟩ = some v := fun b o v hv => (hT.cell (World.block_lt_of_cell? _ _ hv) id o).trans hv
  obtain ⟨h1, h2, h3, h4, h5, h6, h7, h8, h9, h10, h11, h12, h13⟩ := h
  exact ⟨go _ _ _ h1, go _ _ _ h2, go _ _ _ h3, go _ _ _ h4, go _ _ _ h5, go _ _ _ h6, go _ _ _ h7, go _ _ _ h8, go _ _ _ h9, go _ _ _ h10, go _ _ _ h11, go _ _ _ h12, h13.out.trans hT⟩

set_option maxHeartbeats 4000000 in
theorem valueOrder_any (a : V) (fa : a.fits) (b : V) (fb : b.fits) (c : V) (fc : c.fits) (w : World) : Calls Tryd.prog 4 #[a.val, b.val, c.val] w fun e w' => e = .returned (.bool true) ∧ Touch (fun _ => False) w w' := by
  have HAB : Hid (∀ w, Calls Tryd.prog 16 #[a.val, b.val] w fun e w' => e = .returned (.int .i64 (refCmp a b)) ∧ Touch (fun _ => False) w w') := v_cmp a b fa.f1 fb.f1
  have HBC : Hid (∀ w, Calls Tryd.prog 16 #[b.val, c.val] w fun e w' => e = .returned (.int .i64 (refCmp b c)) ∧ Touch (fun _ => False) w w') := v_cmp b c fb.f1 fc.f1
  have HAC : Hid (∀ w, Calls Tryd.prog 16 #[a.val, c.val] w fun e w' => e = .returned (.int .i64 (refCmp a c)) ∧ Touch (fun _ => False) w w') := v_cmp a c fa.f1 fc.f1
  have HBA : Hid (∀ w, Calls Tryd.prog 16 #[b.val, a.val] w fun e w' => e = .returned (.int .i64 (-refCmp a b)) ∧ Touch (fun _ => False) w w') := by
    intro w
    have h := v_cmp b a fb.f1 fa.f1 w
    rw [refCmp_anti b a] at h
    exact h
  have HAA : Hid (∀ w, Calls Tryd.prog 16 #[a.val, a.val] w fun e w' => e = .returned (.int .i64 0) ∧ Touch (fun _ => False) w w') := by
    intro w
    have h := v_cmp a a fa.f1 fa.f1 w
    rw [refCmp_self a] at h
    exact h
  have HS : Hid (∀ w, Calls Tryd.prog 18 #[a.val, b.val] w fun e w' => e = .returned (.bool (refCmp a b == 0)) ∧ Touch (fun _ => False) w w') := v_same a b fa.f1 fb.f1
  have HR : Hid (∀ w, Calls Tryd.prog 17 #[a.val, b.val] w fun e w' => e = .returned (.int .i64 (refCmp a b)) ∧ Touch (fun _ => False) w w') := ref_cmp a b fa.f1 fb.f1
  have HM : Hid ((refCmp a b = -1 ∨ refCmp a b = 0 ∨ refCmp a b = 1) ∧ (refCmp a b ≤ 0 → refCmp b c ≤ 0 → refCmp a c ≤ 0)) := ⟨refCmp_range a b, refCmp_trans a b c⟩
  generalize refCmp a b = X at *
  generalize refCmp b c = Y at *
  generalize refCmp a c = Z at *
  clear fa fb fc
  obtain ⟨k, n, f, s⟩ := a
  obtain ⟨k2, n2, f2, s2⟩ := b
  obtain ⟨k3, n3, f3, s3⟩ := c
  simp only [V.val] at *
  have hnot : ∀ (x : Bool) (w : World), (Op.unary .not (.bool x)).run Tryd.prog w = .ok (.bool (!x)) w := fun _ _ => rfl
  have H0 : Hid (Touch (fun _ => False) w (((w.alloc (.cells #[.int .i64 k, .int .i64 n, .float .f64 f, .string s] 24)).alloc (.cells #[.int .i64 k2, .int .i64 n2, .float .f64 f2, .string s2] 24)).alloc (.cells #[.int .i64 k3, .int .i64 n3, .float .f64 f3, .string s3] 24))) := (((Touch.refl _ _).alloc _).alloc _).alloc _
  go_enter Tryd.func4, Tryd.ntmps4
  go_wp2_with fail
  refine (known2 _).mono ?_
  rintro e w1 ⟨rfl, hT⟩
  have hbox := box3_keep (w0 := w) (B := w.heap.size) (k := k) (n := n) (f := f) (s := s) (k2 := k2) (n2 := n2) (f2 := f2) (s2 := s2) (k3 := k3) (n3 := n3) (f3 := f3) (s3 := s3) ⟨(new3 w _ _ _).1 0, (new3 w _ _ _).1 1, (new3 w _ _ _).1 2, (new3 w _ _ _).1 3, (new3 w _ _ _).2.1 0, (new3 w _ _ _).2.1 1, (new3 w _ _ _).2.1 2, (new3 w _ _ _).2.1 3, (new3 w _ _ _).2.2 0, (new3 w _ _ _).2.2 1, (new3 w _ _ _).2.2 2, (new3 w _ _ _).2.2 3, H0⟩ hT
  clear hT H0
  obtain ⟨c1, c2, c3, c4, c5, c6, c7, c8, c9, c10, c11, c12, HT1⟩ := hbox
  by_cases l1 : s.size ≤ 6000
  case neg =>
    go_wp2_with fail
    refine (l_light _ _ _ _ _).mono ?_
    rintro e w2 ⟨rfl, rfl⟩
    rw [decide_eq_false l1]
    have HT2 : Hid (Touch (fun _ => False) w (w1.alloc (.cells #[.int .i64 k, .int .i64 n, .float .f64 f, .string s] 24))) := HT1.out.alloc _
    clear l1
    go_wp2_with fail
    go_ret
    exact ⟨rfl, HT2.out⟩
  go_wp2_with fail
  refine (l_light _ _ _ _ _).mono ?_
  rintro e w2 ⟨rfl, hw2⟩
  rw [decide_eq_true l1]
  have hbox2 := box3_keep ⟨c1, c2, c3, c4, c5, c6, c7, c8, c9, c10, c11, c12, HT1⟩ (show Touch (fun _ => False) w1 w2 by rw [hw2]; exact (Touch.refl _ _).alloc _)
  clear hw2 c1 c2 c3 c4 c5 c6 c7 c8 c9 c10 c11 c12 HT1 l1
  obtain ⟨c1, c2, c3, c4, c5, c6, c7, c8, c9, c10, c11, c12, HT1⟩ := hbox2
  by_cases l2 : s2.size ≤ 6000
  case neg =>
    go_wp2_with fail
    refine (l_light _ _ _ _ _).mono ?_
    rintro e w3 ⟨rfl, rfl⟩
    rw [decide_eq_false l2]
    have HT2 : Hid (Touch (fun _ => False) w (w2.alloc (.cells #[.int .i64 k2, .int .i64 n2, .float .f64 f2, .string s2] 24))) := HT1.out.alloc _
    clear l2
    go_wp2_with fail
    go_ret
    exact ⟨rfl, HT2.out⟩
  go_wp2_with fail
  refine (l_light _ _ _ _ _).mono ?_
  rintro e w3 ⟨rfl, hw3⟩
  rw [decide_eq_true l2]
  have hbox3 := box3_keep ⟨c1, c2, c3, c4, c5, c6, c7, c8, c9, c10, c11, c12, HT1⟩ (show Touch (fun _ => False) w2 w3 by rw [hw3]; exact (Touch.refl _ _).alloc _)
  clear hw3 c1 c2 c3 c4 c5 c6 c7 c8 c9 c10 c11 c12 HT1 l2
  obtain ⟨c1, c2, c3, c4, c5, c6, c7, c8, c9, c10, c11, c12, HT1⟩ := hbox3
  by_cases l3 : s3.size ≤ 6000
  case neg =>
    go_wp2_with fail
    refine (l_light _ _ _ _ _).mono ?_
    rintro e w4 ⟨rfl, rfl⟩
    rw [decide_eq_false l3]
    have HT2 : Hid (Touch (fun _ => False) w (w3.alloc (.cells #[.int .i64 k3, .int .i64 n3, .float .f64 f3, .string s3] 24))) := HT1.out.alloc _
    clear l3
    go_wp2_with fail
    go_ret
    exact ⟨rfl, HT2.out⟩
  go_wp2_with fail
  refine (l_light _ _ _ _ _).mono ?_
  rintro e w4 ⟨rfl, hw4⟩
  rw [decide_eq_true l3]
  have hbox4 := box3_keep ⟨c1, c2, c3, c4, c5, c6, c7, c8, c9, c10, c11, c12, HT1⟩ (show Touch (fun _ => False) w3 w4 by rw [hw4]; exact (Touch.refl _ _).alloc _)
  clear hw4 c1 c2 c3 c4 c5 c6 c7 c8 c9 c10 c11 c12 HT1 l3
  obtain ⟨c1, c2, c3, c4, c5, c6, c7, c8, c9, c10, c11, c12, HT1⟩ := hbox4
  go_wp2_with fail
  have HTd : Hid (Touch (fun _ => False) w w4.drew) := HT1.out.drew
  go_region_held (fun w' => w'.cell? ⟨w.heap.size, 0, none⟩ = some (.int .i64 k) ∧ w'.cell? ⟨w.heap.size, 1, none⟩ = some (.int .i64 n) ∧ w'.cell? ⟨w.heap.size, 2, none⟩ = some (.float .f64 f) ∧ w'.cell? ⟨w.heap.size, 3, none⟩ = some (.string s) ∧ w'.cell? ⟨w.heap.size + 1, 0, none⟩ = some (.int .i64 k2) ∧ w'.cell? ⟨w.heap.size + 1, 1, none⟩ = some (.int .i64 n2) ∧ w'.cell? ⟨w.heap.size + 1, 2, none⟩ = some (.float .f64 f2) ∧ w'.cell? ⟨w.heap.size + 1, 3, none⟩ = some (.string s2) ∧ w'.cell? ⟨w.heap.size + 1 + 1, 0, none⟩ = some (.int .i64 k3) ∧ w'.cell? ⟨w.heap.size + 1 + 1, 1, none⟩ = some (.int .i64 n3) ∧ w'.cell? ⟨w.heap.size + 1 + 1, 2, none⟩ = some (.float .f64 f3) ∧ w'.cell? ⟨w.heap.size + 1 + 1, 3, none⟩ = some (.string s3) ∧ Hid (Touch (fun _ => False) w w')) (first | assumption | exact ⟨c1, c2, c3, c4, c5, c6, c7, c8, c9, c10, c11, c12, HTd⟩)
    (first
      | (go_at_call 16; with_reducible refine (HAB.out _).mono ?_; rintro e w' ⟨rfl, hT⟩; have hS2 := box3_keep (by assumption) hT; clear hT)
      | (go_at_call 16; with_reducible refine (HBC.out _).mono ?_; rintro e w' ⟨rfl, hT⟩; have hS2 := box3_keep (by assumption) hT; clear hT)
      | (go_at_call 16; with_reducible refine (HAC.out _).mono ?_; rintro e w' ⟨rfl, hT⟩; have hS2 := box3_keep (by assumption) hT; clear hT))
  obtain ⟨d1, d2, d3, d4, d5, d6, d7, d8, d9, d10, d11, d12, HT5⟩ := hS2
  clear c1 c2 c3 c4 c5 c6 c7 c8 c9 c10 c11 c12 HT1 HTd HAB HBC HAC
  have hX := HM.out.1
  have hZ : X ≤ 0 → ¬ 0 < Y → Z ≤ 0 := fun h1 h2 => HM.out.2 h1 (by omega)
  clear HM
  have hW : (X = 1) ∨ (X = 0 ∧ 0 < Y) ∨ (X = 0 ∧ ¬ 0 < Y) ∨ (X = -1 ∧ 0 < Y) ∨ (X = -1 ∧ ¬ 0 < Y) := by omega
  rcases hW with e | ⟨e, hy⟩ | ⟨e, hy⟩ | ⟨e, hy⟩ | ⟨e, hy⟩ <;> subst e <;> clear hX
  case' inl => have hy := trivial
  case' inr.inl => clear hZ
  case' inr.inr.inl => have hz := hZ (by decide) hy
  case' inr.inr.inr.inl => clear hZ
  case' inr.inr.inr.inr => have hz := hZ (by decide) hy
  all_goals
    try clear hZ
    go_wp2_with fail
    refine (HR.out _).mono ?_
    rintro e w5 ⟨rfl, hT⟩
    have hb := box3_keep ⟨d1, d2, d3, d4, d5, d6, d7, d8, d9, d10, d11, d12, HT5⟩ hT
    clear hT d1 d2 d3 d4 d5 d6 d7 d8 d9 d10 d11 d12 HT5 HR
    obtain ⟨d1, d2, d3, d4, d5, d6, d7, d8, d9, d10, d11, d12, HT5⟩ := hb
    go_wp2_with fail
    refine (HBA.out _).mono ?_
    rintro e w6 ⟨rfl, hT⟩
    have hb := box3_keep ⟨d1, d2, d3, d4, d5, d6, d7, d8, d9, d10, d11, d12, HT5⟩ hT
    clear hT d1 d2 d3 d4 d5 d6 d7 d8 d9 d10 d11 d12 HT5 HBA
    obtain ⟨d1, d2, d3, d4, d5, d6, d7, d8, d9, d10, d11, d12, HT5⟩ := hb
    go_wp2_with fail
    refine (HAA.out _).mono ?_
    rintro e w7 ⟨rfl, hT⟩
    have hb := box3_keep ⟨d1, d2, d3, d4, d5, d6, d7, d8, d9, d10, d11, d12, HT5⟩ hT
    clear hT d1 d2 d3 d4 d5 d6 d7 d8 d9 d10 d11 d12 HT5 HAA
    obtain ⟨d1, d2, d3, d4, d5, d6, d7, d8, d9, d10, d11, d12, HT5⟩ := hb
    go_wp2_with fail
    refine (HS.out _).mono ?_
    rintro e w8 ⟨rfl, hT⟩
    have hb := box3_keep ⟨d1, d2, d3, d4, d5, d6, d7, d8, d9, d10, d11, d12, HT5⟩ hT
    clear hT d1 d2 d3 d4 d5 d6 d7 d8 d9 d10 d11 d12 HT5 HS
    obtain ⟨d1, d2, d3, d4, d5, d6, d7, d8, d9, d10, d11, d12, HT5⟩ := hb
    go_wp2_with fail
    go_ret
    exact ⟨rfl, HT5.out⟩
end Go.Proofs.YtaihofkmcpcjeaaDoor

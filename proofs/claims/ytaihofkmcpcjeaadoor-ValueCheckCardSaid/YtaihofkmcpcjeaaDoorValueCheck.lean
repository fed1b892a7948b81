/- The contract of quirelaw2.ValueCheck. -/
import Derived.Test.YtaihofkmcpcjeaaDoorKnown2
import Derived.Test.YtaihofkmcpcjeaaDoorLight
import Derived.Test.YtaihofkmcpcjeaaDoorBoxes
import Derived.Test.YtaihofkmcpcjeaaDoorLBits
import Derived.Test.YtaihofkmcpcjeaaDoorVClean
import Derived.Test.YtaihofkmcpcjeaaDoorVCheck
import Derived.Test.YtaihofkmcpcjeaaDoorIsVal
import Derived.Deep.RegionHeld3
namespace Go.Proofs.YtaihofkmcpcjeaaDoor
open Go.RowKit
set_option linter.unusedVariables false
set_option maxRecDepth 100000
set_option linter.unusedSimpArgs false

/-- A value that is taken has one NaN alone to be cleaned. -/
theorem clean_ok (v : V) (h : refCheck v = 0) (hn : ¬ (v.k = 3 ∧ isNaN v.f = true)) : refBits v.f = v.f := by
  obtain ⟨k, n, f, s⟩ := v
  simp only at *
  unfold refBits
  by_cases hk : k = 3
  · rw [if_neg (fun e => hn ⟨hk, e⟩)]
  · have hv : vOk ⟨k, n, f, s⟩ = true := by
      unfold refCheck at h
      cases hv : vOk ⟨k, n, f, s⟩
      · rw [hv] at h; simp at h
      · rfl
    have hf : f = 0 := by
      unfold vOk at hv
      simp only at hv
      split at hv
      · simp at hv; omega
      split at hv
      · simp at hv; omega
      split at hv
      · simp at hv; omega
      split at hv
      · simp at hv; omega
      · cases hv
    subst hf
    rw [show isNaN 0 = false from by decide]; rfl

set_option maxHeartbeats 4000000 in
theorem valueCheck_any (a : V) (fa : a.fits) (w : World) (hU : TabsU w) : Calls Tryd.prog 3 #[a.val] w fun e w' => e = .returned (.bool true) ∧ Touch (fun _ => False) w w' := by
  have HU : Hid (TabsU w) := hU
  clear hU
  have HCk : Hid (∀ w, TabsU w → Calls Tryd.prog 12 #[a.val] w fun e w' => e = .returned (.int .i64 (refCheck a)) ∧ Touch (fun _ => False) w w') := fun w h => v_check a fa.s1 w h
  have HR : Hid (a.s.size ≤ 17592186044416 → ∀ w, Calls Tryd.prog 13 #[a.val] w fun e w' => e = .returned (.int .i64 (refCheck a)) ∧ Touch (fun _ => False) w w') := fun h w => ref_check a h w
  have HCl : Hid (∀ w, Calls Tryd.prog 11 #[a.val] w fun e w' => e = .returned (vClean a).val ∧ Touch (fun _ => False) w w') := v_clean a
  have HK : Hid (refCheck a = 0 → ¬ (a.k = 3 ∧ isNaN a.f = true) → refBits a.f = a.f) := clean_ok a
  have HX : Hid (refCheck a = 0 ∨ refCheck a = 20) := by
    unfold refCheck; split
    · exact .inl rfl
    · exact .inr rfl
  generalize refCheck a = R at *
  clear fa
  obtain ⟨k, n, f, s⟩ := a
  simp only [V.val, vClean] at *
  have HBits : Hid (∀ w, Calls Tryd.prog 15 #[.agg #[.int .i64 k, .int .i64 n, .float .f64 f, .string s], .agg #[.int .i64 k, .int .i64 n, .float .f64 f, .string s]] w fun e w' => e = .returned (.bool true) ∧ Touch (fun _ => False) w w') := l_bits k n f s
  have hnot : ∀ (x : Bool) (w : World), (Op.unary .not (.bool x)).run Tryd.prog w = .ok (.bool (!x)) w := fun _ _ => rfl
  have hs := run_store_f64 Tryd.prog
  have hb := f64bits_run
  have nA := self_neq f
  go_enter Tryd.func3, Tryd.ntmps3
  go_wp2_with fail
  refine (known2 _).mono ?_
  rintro e w1 ⟨rfl, hT⟩
  have hbox := boxes1_keep (w0 := w) (A := w.heap.size) (k := k) (n := n) (f := f) (s := s)
    ⟨new1 w _ _ 0, new1 w _ _ 1, new1 w _ _ 2, new1 w _ _ 3, (Touch.refl _ _).alloc _⟩ hT
  clear hT
  obtain ⟨c1, c2, c3, c4, HT1⟩ := hbox
  by_cases l1 : s.size ≤ 6000
  case neg =>
    go_wp2_with fail
    refine (l_light _ _ _ _ _).mono ?_
    rintro e w2 ⟨rfl, rfl⟩
    rw [decide_eq_false l1]
    have HT2 : Hid (Touch (fun _ => False) w (w1.alloc (.cells #[.int .i64 k, .int .i64 n, .float .f64 f, .string s] 24))) := HT1.out.alloc _
    clear l1
    go_wp2_with fail
    go_ret
    exact ⟨rfl, HT2.out⟩
  go_wp2_with fail
  refine (l_light _ _ _ _ _).mono ?_
  rintro e w2 ⟨rfl, hw⟩
  rw [decide_eq_true l1]
  have hbox := boxes1_keep ⟨c1, c2, c3, c4, HT1⟩ (show Touch (fun _ => False) w1 w2 by rw [hw]; exact (Touch.refl _ _).alloc _)
  have HR : Hid (∀ w, Calls Tryd.prog 13 #[.agg #[.int .i64 k, .int .i64 n, .float .f64 f, .string s]] w fun e w' => e = .returned (.int .i64 R) ∧ Touch (fun _ => False) w w') := HR.out (by omega)
  clear hw c1 c2 c3 c4 HT1 l1
  obtain ⟨c1, c2, c3, c4, HT1⟩ := hbox
  go_wp2_with fail
  refine (HCl.out _).mono ?_
  rintro e w4 ⟨rfl, hT⟩
  have hbox := boxes1_keep ⟨c1, c2, c3, c4, HT1⟩ hT
  clear hT c1 c2 c3 c4 HT1 HCl
  obtain ⟨c1, c2, c3, c4, HT1⟩ := hbox
  by_cases hN : k = 3 ∧ isNaN f = true
  · obtain ⟨rfl, hN⟩ := hN
    have hB : refBits f = 9221120237041090560 := by unfold refBits; rw [hN]; rfl
    rw [hN] at nA
    simp only [hB]
    clear hN hB HK HX HBits
    have er : (R == R) = true := by simp
    have en : (n == n) = true := by simp
    have es : (s.toList == s.toList) = true := by simp
    have a1 := old1 (.cells #[.int .i64 3, .int .i64 n, .float .f64 9221120237041090560, .string s] 24) c1
    have a3 := old1 (.cells #[.int .i64 3, .int .i64 n, .float .f64 9221120237041090560, .string s] 24) c3
    go_wp2_with fail
    have hb2 := boxes2_keep (w0 := w) (A := w.heap.size) (B := w4.heap.size) (w := w4.alloc (.cells #[.int .i64 3, .int .i64 n, .float .f64 9221120237041090560, .string s] 24)) (w' := (w4.alloc (.cells #[.int .i64 3, .int .i64 n, .float .f64 9221120237041090560, .string s] 24)).drew)
      ⟨old1 _ c1, old1 _ c2, old1 _ c3, old1 _ c4, new1 _ _ _ 0, new1 _ _ _ 1, new1 _ _ _ 2, new1 _ _ _ 3, HT1.out.alloc _⟩ (Touch.refl _ _).drew
    clear c1 c2 c3 c4 HT1 a1 a3
    go_region_held3 (fun w' => w'.cell? ⟨w.heap.size, 0, none⟩ = some (.int .i64 3) ∧ w'.cell? ⟨w.heap.size, 1, none⟩ = some (.int .i64 n) ∧ w'.cell? ⟨w.heap.size, 2, none⟩ = some (.float .f64 f) ∧ w'.cell? ⟨w.heap.size, 3, none⟩ = some (.string s) ∧ w'.cell? ⟨w4.heap.size, 0, none⟩ = some (.int .i64 3) ∧ w'.cell? ⟨w4.heap.size, 1, none⟩ = some (.int .i64 n) ∧ w'.cell? ⟨w4.heap.size, 2, none⟩ = some (.float .f64 9221120237041090560) ∧ w'.cell? ⟨w4.heap.size, 3, none⟩ = some (.string s) ∧ Hid (Touch (fun _ => False) w w')) (assumption)
      (first
        | (go_at_call 12; with_reducible refine (HCk.out _ (HU.out.keep (boxes2_touch (by assumption)))).mono ?_; rintro e w' ⟨rfl, hT⟩; have hS2 := boxes2_keep (by assumption) hT; clear hT)
        | (go_at_call 13; with_reducible refine (HR.out _).mono ?_; rintro e w' ⟨rfl, hT⟩; have hS2 := boxes2_keep (by assumption) hT; clear hT))
    obtain ⟨d1, d2, d3, d4, d5, d6, d7, d8, HT5⟩ := hS2
    clear d1 d2 d3 d4 d5 d6 d7 d8
    go_wp2_with fail
    go_ret
    exact ⟨rfl, HT5.out⟩
  · rcases HX.out with e | e <;> subst e
    · have hB : refBits f = f := HK.out rfl hN
      simp only [hB]
      clear HK HX hB
      cases t3 : (k == 3)
      case' true =>
        have hN2 : isNaN f = false := by
          cases h : isNaN f
          · rfl
          · exact absurd ⟨by simpa using t3, h⟩ hN
        rw [hN2] at nA
        clear hN2
      all_goals
        clear hN
        have a1 := old1 (.cells #[.int .i64 k, .int .i64 n, .float .f64 f, .string s] 24) c1
        have a3 := old1 (.cells #[.int .i64 k, .int .i64 n, .float .f64 f, .string s] 24) c3
        go_wp2_with fail
        have hb2 := boxes2_keep (w0 := w) (A := w.heap.size) (B := w4.heap.size) (w := w4.alloc (.cells #[.int .i64 k, .int .i64 n, .float .f64 f, .string s] 24)) (w' := (w4.alloc (.cells #[.int .i64 k, .int .i64 n, .float .f64 f, .string s] 24)).drew)
          ⟨old1 _ c1, old1 _ c2, old1 _ c3, old1 _ c4, new1 _ _ _ 0, new1 _ _ _ 1, new1 _ _ _ 2, new1 _ _ _ 3, HT1.out.alloc _⟩ (Touch.refl _ _).drew
        clear c1 c2 c3 c4 HT1 a1 a3
        go_region_held3 (fun w' => w'.cell? ⟨w.heap.size, 0, none⟩ = some (.int .i64 k) ∧ w'.cell? ⟨w.heap.size, 1, none⟩ = some (.int .i64 n) ∧ w'.cell? ⟨w.heap.size, 2, none⟩ = some (.float .f64 f) ∧ w'.cell? ⟨w.heap.size, 3, none⟩ = some (.string s) ∧ w'.cell? ⟨w4.heap.size, 0, none⟩ = some (.int .i64 k) ∧ w'.cell? ⟨w4.heap.size, 1, none⟩ = some (.int .i64 n) ∧ w'.cell? ⟨w4.heap.size, 2, none⟩ = some (.float .f64 f) ∧ w'.cell? ⟨w4.heap.size, 3, none⟩ = some (.string s) ∧ Hid (Touch (fun _ => False) w w')) (assumption)
          (first
            | (go_at_call 12; with_reducible refine (HCk.out _ (HU.out.keep (boxes2_touch (by assumption)))).mono ?_; rintro e w' ⟨rfl, hT⟩; have hS2 := boxes2_keep (by assumption) hT; clear hT)
            | (go_at_call 13; with_reducible refine (HR.out _).mono ?_; rintro e w' ⟨rfl, hT⟩; have hS2 := boxes2_keep (by assumption) hT; clear hT)
            | (go_at_call 15; with_reducible refine (HBits.out _).mono ?_; rintro e w' ⟨rfl, hT⟩; have hS2 := boxes2_keep (by assumption) hT; clear hT))
        obtain ⟨d1, d2, d3, d4, d5, d6, d7, d8, HT5⟩ := hS2
        clear d1 d2 d3 d4 d5 d6 d7 d8
        go_wp2_with fail
        go_ret
        exact ⟨rfl, HT5.out⟩
    · generalize refBits f = g at *
      clear HK HX HBits
      cases t3 : (k == 3)
      case' true =>
        have hN2 : isNaN f = false := by
          cases h : isNaN f
          · rfl
          · exact absurd ⟨by simpa using t3, h⟩ hN
        rw [hN2] at nA
        clear hN2
      all_goals
        clear hN
        have a1 := old1 (.cells #[.int .i64 k, .int .i64 n, .float .f64 g, .string s] 24) c1
        have a3 := old1 (.cells #[.int .i64 k, .int .i64 n, .float .f64 g, .string s] 24) c3
        go_wp2_with fail
        have hb2 := boxes2_keep (w0 := w) (A := w.heap.size) (B := w4.heap.size) (w := w4.alloc (.cells #[.int .i64 k, .int .i64 n, .float .f64 g, .string s] 24)) (w' := (w4.alloc (.cells #[.int .i64 k, .int .i64 n, .float .f64 g, .string s] 24)).drew)
          ⟨old1 _ c1, old1 _ c2, old1 _ c3, old1 _ c4, new1 _ _ _ 0, new1 _ _ _ 1, new1 _ _ _ 2, new1 _ _ _ 3, HT1.out.alloc _⟩ (Touch.refl _ _).drew
        clear c1 c2 c3 c4 HT1 a1 a3
        refine wp_region_held_drew (S := fun w' => w'.cell? ⟨w.heap.size, 0, none⟩ = some (.int .i64 k) ∧ w'.cell? ⟨w.heap.size, 1, none⟩ = some (.int .i64 n) ∧ w'.cell? ⟨w.heap.size, 2, none⟩ = some (.float .f64 f) ∧ w'.cell? ⟨w.heap.size, 3, none⟩ = some (.string s) ∧ w'.cell? ⟨w4.heap.size, 0, none⟩ = some (.int .i64 k) ∧ w'.cell? ⟨w4.heap.size, 1, none⟩ = some (.int .i64 n) ∧ w'.cell? ⟨w4.heap.size, 2, none⟩ = some (.float .f64 g) ∧ w'.cell? ⟨w4.heap.size, 3, none⟩ = some (.string s) ∧ Hid (Touch (fun _ => False) w w')) (by kernel_rfl) hb2 (fun hHeld => ?_)
        refine wpAnyH_take (i := 0) (v := (.agg #[.int .i64 k, .int .i64 n, .float .f64 f, .string s])) rfl (by kernel_rfl) (by kernel_rfl) (by kernel_rfl) (fun _ _ _ h => h) (Or.inl ⟨by rfl, ?_⟩) hHeld ?_
        · intro w hSw; go_simp
        simp only [Act.put, List.setIfInBounds_toArray]
        refine wpAnyH_take (i := 2) (v := (.agg #[.int .i64 k, .int .i64 n, .float .f64 f, .string s])) rfl (by kernel_rfl) (by kernel_rfl) (by kernel_rfl) (fun _ _ _ h => h) (Or.inl ⟨by rfl, ?_⟩) hHeld ?_
        · intro w hSw; go_simp
        simp only [Act.put, List.setIfInBounds_toArray]
        refine wpAnyH_ready (rs := [1]) (by kernel_rfl) (by simp) ?_
        refine AllReadyH.cons rfl (fun K hK => ?_) AllReadyH.nil
        go_simp
        refine (HCk.out _ (HU.out.keep (boxes2_touch hHeld))).mono ?_
        rintro e w' ⟨rfl, hT⟩
        have hS2 := boxes2_keep hHeld hT
        refine hK.out _ _ hS2 (fun hHeld => ?_)
        clear hK K hT hS2
        refine wpAnyH_ready (rs := [3]) (by kernel_rfl) (by simp) ?_
        refine AllReadyH.cons rfl (fun K hK => ?_) AllReadyH.nil
        go_simp
        refine (HR.out _).mono ?_
        rintro e w' ⟨rfl, hT⟩
        have hS2 := boxes2_keep hHeld hT
        refine hK.out _ _ hS2 (fun hHeld => ?_)
        clear hK K hT hS2
        refine wpAnyH_take (i := 4) (v := .bool true) rfl (by kernel_rfl) (by kernel_rfl) (by kernel_rfl) (fun _ _ _ h => h) (Or.inl ⟨by rfl, ?_⟩) hHeld ?_
        · intro w hSw; go_simp
        simp only [Act.put, List.setIfInBounds_toArray]
        refine wpAnyH_take (i := 5) (v := .bool true) rfl (by kernel_rfl) (by kernel_rfl) (by kernel_rfl) (fun _ _ _ h => h) (Or.inl ⟨by rfl, ?_⟩) hHeld ?_
        · intro w hSw; go_simp
        simp only [Act.put, List.setIfInBounds_toArray]
        refine wpAnyH_take (i := 6) (v := (.agg #[.int .i64 k, .int .i64 n, .float .f64 f, .string s])) rfl (by kernel_rfl) (by kernel_rfl) (by kernel_rfl) (fun _ _ _ h => h) (Or.inl ⟨by rfl, ?_⟩) hHeld ?_
        · intro w hSw; go_simp
        simp only [Act.put, List.setIfInBounds_toArray]
        refine wpAnyH_ready (rs := [7]) (by kernel_rfl) (by simp) ?_
        refine AllReadyH.cons rfl (fun K hK => ?_) AllReadyH.nil
        go_simp
        refine (HR.out _).mono ?_
        rintro e w' ⟨rfl, hT⟩
        have hS2 := boxes2_keep hHeld hT
        refine hK.out _ _ hS2 (fun hHeld => ?_)
        clear hK K hT hS2
        refine wpAnyH_take (i := 8) (v := .bool true) rfl (by kernel_rfl) (by kernel_rfl) (by kernel_rfl) (fun _ _ _ h => h) (Or.inl ⟨by rfl, ?_⟩) hHeld ?_
        · intro w hSw; go_simp
        simp only [Act.put, List.setIfInBounds_toArray]
        refine wpAnyH_take (i := 9) (v := .bool true) rfl (by kernel_rfl) (by kernel_rfl) (by kernel_rfl) (fun _ _ _ h => h) (Or.inl ⟨by rfl, ?_⟩) hHeld ?_
        · intro w hSw; go_simp
        simp only [Act.put, List.setIfInBounds_toArray]
        refine wpAnyH_take (i := 10) (v := undef) rfl (by kernel_rfl) (by kernel_rfl) (by kernel_rfl) (fun _ _ _ h => h) (Or.inr ⟨by rfl, rfl⟩) hHeld ?_
        simp only [Act.put, List.setIfInBounds_toArray]
        refine wpAnyH_take (i := 11) (v := undef) rfl (by kernel_rfl) (by kernel_rfl) (by kernel_rfl) (fun _ _ _ h => h) (Or.inr ⟨by rfl, rfl⟩) hHeld ?_
        simp only [Act.put, List.setIfInBounds_toArray]
        refine wpAnyH_take (i := 12) (v := undef) rfl (by kernel_rfl) (by kernel_rfl) (by kernel_rfl) (fun _ _ _ h => h) (Or.inr ⟨by rfl, rfl⟩) hHeld ?_
        simp only [Act.put, List.setIfInBounds_toArray]
        refine wpAnyH_take (i := 13) (v := .bool true) rfl (by kernel_rfl) (by kernel_rfl) (by kernel_rfl) (fun _ _ _ h => h) (Or.inl ⟨by rfl, ?_⟩) hHeld ?_
        · intro w hSw; go_simp
        simp only [Act.put, List.setIfInBounds_toArray]
        refine wpAnyH_take (i := 14) (v := .bool true) rfl (by kernel_rfl) (by kernel_rfl) (by kernel_rfl) (fun _ _ _ h => h) (Or.inl ⟨by rfl, ?_⟩) hHeld ?_
        · intro w hSw; go_simp
        simp only [Act.put, List.setIfInBounds_toArray]
        refine wpAnyH_take (i := 15) (v := .bool true) rfl (by kernel_rfl) (by kernel_rfl) (by kernel_rfl) (fun _ _ _ h => h) (Or.inl ⟨by rfl, ?_⟩) hHeld ?_
        · intro w hSw; go_simp
        simp only [Act.put, List.setIfInBounds_toArray]
        refine wpAnyH_done (by kernel_rfl) ?_ _
        simp only [List.getElem_toArray, List.getElem_cons_succ, List.getElem_cons_zero, List.setIfInBounds_toArray, List.set_cons_succ, List.set_cons_zero]
        obtain ⟨d1, d2, d3, d4, d5, d6, d7, d8, HT5⟩ := hHeld
        clear d1 d2 d3 d4 d5 d6 d7 d8
        go_wp2_with fail
        go_ret
        exact ⟨rfl, HT5.out⟩
end Go.Proofs.YtaihofkmcpcjeaaDoor

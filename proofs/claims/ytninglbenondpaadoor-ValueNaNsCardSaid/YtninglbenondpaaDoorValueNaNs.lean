/- The contract of quirelaw2.ValueNaNs. -/
import Derived.Test.YtninglbenondpaaDoorKnown2
import Derived.Test.YtninglbenondpaaDoorLight
import Derived.Test.YtninglbenondpaaDoorBoxes
import Derived.Test.YtninglbenondpaaDoorNaNLaws
import Derived.Test.YtninglbenondpaaDoorRef2c
import Derived.Test.YtninglbenondpaaDoorVAdd2
import Derived.Test.YtninglbenondpaaDoorWrMore
import Derived.Test.YtninglbenondpaaDoorLiesStr
import Derived.Deep.RegionHeld3
import Derived.Deep.DeepCutAuto
namespace Go.Proofs.YtninglbenondpaaDoor
open Go.RowKit
set_option linter.unusedVariables false
set_option linter.unusedSimpArgs false
set_option maxRecDepth 100000

/-- A block made just ahead of a call lies behind it as it lay. -/
theorem fresh_keep {W W' : World} {o : Obj} (h : Touch (fun _ => False) (W.alloc o) W') : W'.heap[W.heap.size]? = some o := (h.block _ (by simp) id).trans (heap_alloc_new W o)

theorem fresh_keepD {W W' : World} {o : Obj} (h : Touch (fun _ => False) (W.alloc o).drew W') : W'.heap[W.heap.size]? = some o :=
  (h.block _ (by show _ < (W.alloc o).heap.size; simp) id).trans (heap_alloc_new W o)

set_option maxHeartbeats 40000000 in
theorem valueNaNs_any (a : Nat) (ha : a < 18446744073709551616) (b : Nat) (hb : b < 18446744073709551616) (o : V) (fo : o.fits) (w : World) : Calls Tryd.prog 4 #[.int .u64 a, .int .u64 b, o.val] w fun e w' => e = .returned (.bool true) ∧ Touch (fun _ => False) w w' := by
  have hx0 := or_word a 9218868437227405313 ha (by decide)
  have hy0 := or_word b 18442240474082181121 hb (by decide)
  have hnx := nan_or_pos a
  have hny := nan_or_neg b
  have HFX : Hid (∀ w, (callFunc 12 #[.int .u64 (bits .or .u64 (a : Int) 9218868437227405313)]).run Tryd.prog w = .ok (.value (.float .f64 (a ||| 9218868437227405313))) w) := fun w => by
    rw [show (9218868437227405313 : Int) = ((9218868437227405313 : Nat) : Int) from rfl, u64_or_nat a _ ha (by decide)]; exact f64frombits_run _ w
  have HFY : Hid (∀ w, (callFunc 12 #[.int .u64 (bits .or .u64 (b : Int) 18442240474082181121)]).run Tryd.prog w = .ok (.value (.float .f64 (b ||| 18442240474082181121))) w) := fun w => by
    rw [show (18442240474082181121 : Int) = ((18442240474082181121 : Nat) : Int) from rfl, u64_or_nat b _ hb (by decide)]; exact f64frombits_run _ w
  generalize a ||| 9218868437227405313 = X at *
  generalize b ||| 18442240474082181121 = Y at *
  have HCo : Hid (o.s.size ≤ 6000 → ∀ w, Calls Tryd.prog 13 #[o.val] w fun e w' => e = .returned (.int .i64 (refCheck o)) ∧ Touch (fun _ => False) w w') := fun h w => ref_check o (by omega) w
  have HXo : Hid (refCheck o = 0 ∨ refCheck o = 20) := by
    unfold refCheck; split
    · exact .inl rfl
    · exact .inr rfl
  have gx : (fl X).good := ⟨by constructor <;> first | exact hx0 | (show (0 : Nat) ≤ _; omega) | (simp [fl]; done), .inr (.inr (.inr (.inl rfl))), fun h => by simp [fl] at h⟩
  have gy : (fl Y).good := ⟨by constructor <;> first | exact hy0 | (show (0 : Nat) ≤ _; omega) | (simp [fl]; done), .inr (.inr (.inr (.inl rfl))), fun h => by simp [fl] at h⟩
  have HWx : Hid (∀ p w, Wr w p [] → Calls Tryd.prog 14 #[.pointer (some ⟨p, 0, none⟩), .agg #[.int .i64 3, .int .i64 0, .float .f64 X, .string ⟨#[]⟩]] w fun e w' => e = .returned (.tuple #[]) ∧ WrPost p (writeOf (fl Y)) w w') := fun p w hw => by
    have := v_write p [] (fl X) gx w hw (by show 0 + 20 + 0 ≤ _; omega)
    rw [writeOf_nan hnx hny] at this
    exact this
  have HWy : Hid (∀ p w, Wr w p [] → Calls Tryd.prog 14 #[.pointer (some ⟨p, 0, none⟩), .agg #[.int .i64 3, .int .i64 0, .float .f64 Y, .string ⟨#[]⟩]] w fun e w' => e = .returned (.tuple #[]) ∧ WrPost p (writeOf (fl Y)) w w') := fun p w hw => v_write p [] (fl Y) gy w hw (by show 0 + 20 + 0 ≤ _; omega)
  have HLy : Hid ((writeOf (fl Y)).length ≤ 140737488355328) := by
    have h1 : writeOf (fl Y) = 3 :: putF (refBits Y) := rfl
    rw [Hid, h1, refBits_nan hny]
    decide +kernel
  have HTx : Hid (∀ w, Calls Tryd.prog 18 #[.agg #[.int .i64 3, .int .i64 0, .float .f64 X, .string ⟨#[]⟩]] w fun e w' => e = .returned (.string ⟨#[102, 55, 102, 102, 56, 48, 48, 48, 48, 48, 48, 48, 48, 48, 48, 48, 48]⟩) ∧ Touch (fun _ => False) w w') := fun w => by
    have := v_text_float (fl X) rfl hx0 w
    rw [show hexText (fl X).f = _ from hexText_nan hnx] at this
    exact this
  have HTy : Hid (∀ w, Calls Tryd.prog 18 #[.agg #[.int .i64 3, .int .i64 0, .float .f64 Y, .string ⟨#[]⟩]] w fun e w' => e = .returned (.string ⟨#[102, 55, 102, 102, 56, 48, 48, 48, 48, 48, 48, 48, 48, 48, 48, 48, 48]⟩) ∧ Touch (fun _ => False) w w') := fun w => by
    have := v_text_float (fl Y) rfl hy0 w
    rw [show hexText (fl Y).f = _ from hexText_nan hny] at this
    exact this
  have HSm : Hid (∀ w, Calls Tryd.prog 16 #[.agg #[.int .i64 3, .int .i64 0, .float .f64 X, .string ⟨#[]⟩], .agg #[.int .i64 3, .int .i64 0, .float .f64 Y, .string ⟨#[]⟩]] w fun e w' => e = .returned (.bool true) ∧ Touch (fun _ => False) w w') := fun w => by
    have := v_same (fl X) (fl Y) hx0 hy0 w
    rw [refSame_nan hnx hny] at this
    exact this
  have HCx : Hid (∀ w, Calls Tryd.prog 19 #[.agg #[.int .i64 3, .int .i64 0, .float .f64 X, .string ⟨#[]⟩], o.val] w fun e w' => e = .returned (.int .i64 (refCmp (fl Y) o)) ∧ Touch (fun _ => False) w w') := fun w => by
    have := v_cmp (fl X) o hx0 fo.f1 w
    rw [refCmp_nan hnx hny] at this
    exact this
  have HCy : Hid (∀ w, Calls Tryd.prog 19 #[.agg #[.int .i64 3, .int .i64 0, .float .f64 Y, .string ⟨#[]⟩], o.val] w fun e w' => e = .returned (.int .i64 (refCmp (fl Y) o)) ∧ Touch (fun _ => False) w w') := fun w => v_cmp (fl Y) o hy0 fo.f1 w
  obtain ⟨K, F, HA, HKF⟩ : ∃ (K : Int) (F : Nat), Hid (∀ w, Calls Tryd.prog 8 #[.agg #[.int .i64 3, .int .i64 0, .float .f64 X, .string ⟨#[]⟩], o.val] w fun e w' => e = .returned (.agg #[.int .i64 K, .int .i64 0, .float .f64 F, .string ⟨#[]⟩]) ∧ Touch (fun _ => False) w w') ∧ Hid (((o.k == 2 || o.k == 3) = true ∧ K = 3 ∧ F = 9221120237041090560) ∨ ((o.k == 2 || o.k == 3) = false ∧ K = 0)) := by
    cases hn : (o.k == 2 || o.k == 3)
    · refine ⟨0, 0, fun w => ?_, .inr ⟨rfl, rfl⟩⟩
      have := v_add (fl X) o w
      rw [refAdd_nan hnx, show isNum o = false from hn] at this
      exact this
    · refine ⟨3, 9221120237041090560, fun w => ?_, .inl ⟨rfl, rfl, rfl⟩⟩
      have := v_add (fl X) o w
      rw [refAdd_nan hnx, show isNum o = true from hn] at this
      exact this
  generalize refCheck o = Ro at *
  generalize refCmp (fl Y) o = C at *
  generalize writeOf (fl Y) = BY at *
  obtain ⟨k, n, f, s⟩ := o
  simp only [V.val] at *
  clear fo gx gy hnx hny hx0 hy0 ha hb
  have hfx := HFX.out
  have hfy := HFY.out
  clear HFX HFY
  have hnot : ∀ (x : Bool) (w : World), (Op.unary .not (.bool x)).run Tryd.prog w = .ok (.bool (!x)) w := fun _ _ => rfl
  go_enter Tryd.func4, Tryd.ntmps4
  go_wp2_with fail
  refine (known2 _).mono ?_
  rintro e w1 ⟨rfl, hT⟩
  have hbox := boxes1_keep (w0 := w) (A := w.heap.size) (k := k) (n := n) (f := f) (s := s) ⟨new1 w _ _ 0, new1 w _ _ 1, new1 w _ _ 2, new1 w _ _ 3, (Touch.refl _ _).alloc _⟩ hT
  clear hT
  obtain ⟨c1, c2, c3, c4, HT1⟩ := hbox
  by_cases l1 : s.size ≤ 6000
  case neg =>
    go_wp2_with fail
    refine (l_light _ _ _ _ _).mono ?_
    rintro e w2 ⟨rfl, rfl⟩
    rw [decide_eq_false l1]
    have HT2 : Hid (Touch (fun _ => False) w (w1.alloc (.cells #[.int .i64 k, .int .i64 n, .float .f64 f, .string s] 24))) := HT1.out.alloc _
    clear l1
    go_wp2_with fail
    go_ret
    exact ⟨rfl, HT2.out⟩
  go_wp2_with fail
  refine (l_light _ _ _ _ _).mono ?_
  rintro e w2 ⟨rfl, hw⟩
  rw [decide_eq_true l1]
  have hbox := boxes1_keep ⟨c1, c2, c3, c4, HT1⟩ (show Touch (fun _ => False) w1 w2 by rw [hw]; exact (Touch.refl _ _).alloc _)
  clear hw c1 c2 c3 c4 HT1
  have L1 : Hid (s.size ≤ 6000) := l1
  clear l1
  obtain ⟨c1, c2, c3, c4, HT1⟩ := hbox
  go_wp2_with fail
  refine (HCo.out L1.out _).mono ?_
  rintro e w4 ⟨rfl, hT⟩
  have hbox := boxes1_keep ⟨c1, c2, c3, c4, HT1⟩ hT
  clear hT c1 c2 c3 c4 HT1
  obtain ⟨c1, c2, c3, c4, HT1⟩ := hbox
  by_cases zRo : Ro = 0
  case neg =>
    have zz : Ro = 20 := HXo.out.resolve_left zRo
    subst zz
    clear zRo
    go_wp2_with fail
    go_ret
    exact ⟨rfl, HT1.out⟩
  subst zRo
  clear HXo HCo L1
  have hsz5 : w.heap.size < w4.heap.size := World.block_lt_of_cell? _ _ c1
  have e1 : (w4.alloc (.cells #[.slice none 0 0] 36)).heap.size = w4.heap.size + 1 := by simp
  have hbox := boxes1_keep ⟨c1, c2, c3, c4, HT1⟩ (show Touch (fun _ => False) w4 ((w4.alloc (.cells #[.slice none 0 0] 36)).alloc (.cells #[.slice none 0 0] 36)) from ((Touch.refl _ _).alloc _).alloc _)
  have hb6 : ((w4.alloc (.cells #[.slice none 0 0] 36)).alloc (.cells #[.slice none 0 0] 36)).heap[w4.heap.size + 1]? = some (.cells #[.slice none 0 0] 36) := by
    have := heap_alloc_new (w4.alloc (.cells #[.slice none 0 0] 36)) (.cells #[.slice none 0 0] 36)
    rwa [e1] at this
  have hb5 : ((w4.alloc (.cells #[.slice none 0 0] 36)).alloc (.cells #[.slice none 0 0] 36)).heap[w4.heap.size]? = some (.cells #[.slice none 0 0] 36) := by
    rw [Below.heap_alloc _ _ _ (by rw [e1]; omega)]; exact heap_alloc_new _ _
  have HB5 : Hid (((w4.alloc (.cells #[.slice none 0 0] 36)).alloc (.cells #[.slice none 0 0] 36)).heap[w4.heap.size]? = some (.cells #[.slice none 0 0] 36)) := hb5
  have HB6 : Hid (((w4.alloc (.cells #[.slice none 0 0] 36)).alloc (.cells #[.slice none 0 0] 36)).heap[w4.heap.size + 1]? = some (.cells #[.slice none 0 0] 36)) := hb6
  have HTal : Hid (Touch (fun _ => False) w4 ((w4.alloc (.cells #[.slice none 0 0] 36)).alloc (.cells #[.slice none 0 0] 36))) := ((Touch.refl _ _).alloc _).alloc _
  clear hb5 hb6 e1 c1 c2 c3 c4 HT1
  obtain ⟨c1, c2, c3, c4, HT1⟩ := hbox
  go_wp2_with fail
  refine (l_float _ _).mono ?_
  rintro e w5 ⟨rfl, hw⟩
  have hT5 : Touch (fun _ => False) ((w4.alloc (.cells #[.slice none 0 0] 36)).alloc (.cells #[.slice none 0 0] 36)) w5 := by rw [hw]; exact (Touch.refl _ _).alloc _
  have hbox := boxes1_keep ⟨c1, c2, c3, c4, HT1⟩ hT5
  have HB5' : Hid (w5.heap[w4.heap.size]? = some (.cells #[.slice none 0 0] 36)) := (hT5.block _ (lt_of_heap HB5.out) id).trans HB5.out
  have HB6' : Hid (w5.heap[w4.heap.size + 1]? = some (.cells #[.slice none 0 0] 36)) := (hT5.block _ (lt_of_heap HB6.out) id).trans HB6.out
  clear hw hT5 c1 c2 c3 c4 HT1 HB5 HB6 HTal
  obtain ⟨c1, c2, c3, c4, HT1⟩ := hbox
  have HN5 : Hid (Wr w5 w4.heap.size []) := ⟨_, HB5'.out, World.ownsRow_nil _ _ _ _⟩
  go_wp2_with fail
  refine (HWx.out _ _ HN5.out).mono ?_
  rintro e w6 ⟨rfl, hP⟩
  have hTS : Touch (· = w4.heap.size) w5 w6 := hP.touch.mono (fun k _ hf => wfoot_nil HB5'.out hf)
  have hT06 : Touch (fun _ => False) w w6 := HT1.out.then hTS (fun k hk e => by omega)
  have hbox := boxes1_put ⟨c1, c2, c3, c4, HT1⟩ hTS (show ¬ (w.heap.size = w4.heap.size) by omega) hT06
  have HB6 : Hid (w6.heap[w4.heap.size + 1]? = some (.cells #[.slice none 0 0] 36)) := (hTS.block _ (lt_of_heap HB6'.out) (by omega)).trans HB6'.out
  have HW5 : Hid (Wr w6 w4.heap.size BY) := hP.is
  clear hP hTS hT06 HB5' HB6' HN5 c1 c2 c3 c4 HT1 HWx
  obtain ⟨c1, c2, c3, c4, HT1⟩ := hbox
  go_wp2_with fail
  refine (l_float _ _).mono ?_
  rintro e w7 ⟨rfl, hw⟩
  have hT5 : Touch (fun _ => False) w6 w7 := by rw [hw]; exact (Touch.refl _ _).alloc _
  have hbox := boxes1_keep ⟨c1, c2, c3, c4, HT1⟩ hT5
  have HB6' : Hid (w7.heap[w4.heap.size + 1]? = some (.cells #[.slice none 0 0] 36)) := (hT5.block _ (lt_of_heap HB6.out) id).trans HB6.out
  have HW5' : Hid (Wr w7 w4.heap.size BY) := HW5.out.keep hT5 (fun _ _ => id)
  clear hw hT5 c1 c2 c3 c4 HT1 HB6 HW5
  obtain ⟨c1, c2, c3, c4, HT1⟩ := hbox
  have HN6 : Hid (Wr w7 (w4.heap.size + 1) []) := ⟨_, HB6'.out, World.ownsRow_nil _ _ _ _⟩
  go_wp2_with fail
  refine (HWy.out _ _ HN6.out).mono ?_
  rintro e w8 ⟨rfl, hP⟩
  have hTS : Touch (· = w4.heap.size + 1) w7 w8 := hP.touch.mono (fun k _ hf => wfoot_nil HB6'.out hf)
  have hT07 : Touch (fun _ => False) w w8 := HT1.out.then hTS (fun k hk e => by omega)
  have hbox := boxes1_put ⟨c1, c2, c3, c4, HT1⟩ hTS (show ¬ (w.heap.size = w4.heap.size + 1) by omega) hT07
  have HW5 : Hid (Wr w8 w4.heap.size BY) := HW5'.out.keep hTS (fun k hk e => by subst e; exact wfoot_ne HW5'.out HB6'.out (by omega) hk)
  have HW6 : Hid (Wr w8 (w4.heap.size + 1) BY) := hP.is
  clear hP hTS hT07 HB6' HN6 HW5' c1 c2 c3 c4 HT1 HWy
  obtain ⟨c1, c2, c3, c4, HT1⟩ := hbox
  generalize w4.heap.size + 1 = P6 at *
  generalize w4.heap.size = P5 at *
  clear hsz5
  go_wp2_with fail
  have hcl := boxes1_keep ⟨c1, c2, c3, c4, HT1⟩ (show Touch (fun _ => False) w8 w8.drew from (Touch.refl _ _).drew)
  go_cut [11] (fun t wc => ∃ B : Nat, t = .pointer (some ⟨B, 0, none⟩) ∧ (wc.cell? ⟨w.heap.size, 0, none⟩ = some (.int .i64 k) ∧ wc.cell? ⟨w.heap.size, 1, none⟩ = some (.int .i64 n) ∧ wc.cell? ⟨w.heap.size, 2, none⟩ = some (.float .f64 f) ∧ wc.cell? ⟨w.heap.size, 3, none⟩ = some (.string s) ∧ wc.cell? ⟨B, 0, none⟩ = some (.int .i64 K) ∧ wc.cell? ⟨B, 1, none⟩ = some (.int .i64 0) ∧ wc.cell? ⟨B, 2, none⟩ = some (.float .f64 F) ∧ wc.cell? ⟨B, 3, none⟩ = some (.string ⟨#[]⟩) ∧ Hid (Touch (fun _ => False) w wc)) ∧ Hid (Wr wc P5 BY ∧ Wr wc P6 BY))
  case first =>
    have hst64 := run_store_f64 Tryd.prog
    have HW5d : Hid (Wr w8.drew P5 BY) := HW5.out.keep (Touch.refl (fun _ => False) w8).drew (fun _ _ => id)
    have HW6d : Hid (Wr w8.drew P6 BY) := HW6.out.keep (Touch.refl (fun _ => False) w8).drew (fun _ _ => id)
    clear c1 c2 c3 c4 HT1 HW5 HW6
    go_region_held3 (fun w' => (w'.cell? ⟨w.heap.size, 0, none⟩ = some (.int .i64 k) ∧ w'.cell? ⟨w.heap.size, 1, none⟩ = some (.int .i64 n) ∧ w'.cell? ⟨w.heap.size, 2, none⟩ = some (.float .f64 f) ∧ w'.cell? ⟨w.heap.size, 3, none⟩ = some (.string s) ∧ Hid (Touch (fun _ => False) w w'))) (first | (with_reducible exact boxes1_put4 hS2 HAB.out) | (with_reducible exact hS2) | (with_reducible exact hcl) | (with_reducible exact boxes1_keep hS2 ((Touch.refl _ _).alloc _)) | (with_reducible exact boxes1_keep hcl ((Touch.refl _ _).alloc _)))
      (first
        | (go_at_call 15; (with_reducible refine (l_float _ _).mono ?_); rintro e w' ⟨rfl, hw⟩; have hT : Touch (fun _ => False) _ w' := by { rw [hw]; exact (Touch.refl _ _).alloc _ }; have hS2 := boxes1_keep (by assumption) hT; have HTa : Hid (Touch (fun _ => False) _ w') := hT; (try (have hz1 := fresh_keepD hT; have HZ1 : Hid (w'.heap[w8.heap.size]? = some _) := hz1; have HAB : Hid (w.heap.size < w8.heap.size) := (World.block_lt_of_cell? _ _ hcl.1 : w.heap.size < w8.drew.heap.size); clear hz1)); clear hw hT)
        | (go_at_call 8; (with_reducible refine (HA.out _).mono ?_); rintro e w' ⟨rfl, hT⟩; (try (have hz1 := fresh_keep hT; have HZ2 : Hid (w'.heap[_]? = some _) := hz1; have HAB : Hid (w.heap.size < _) := World.block_lt_of_cell? _ _ hS2.1; have q0 := cell_of_block (i := 0) hz1; have q1 := cell_of_block (i := 1) hz1; have q2 := cell_of_block (i := 2) hz1; have q3 := cell_of_block (i := 3) hz1; have r0 := free_of_block (i := 0) hz1; have r1 := free_of_block (i := 1) hz1; have r2 := free_of_block (i := 2) hz1; have r3 := free_of_block (i := 3) hz1; clear hz1)); have hS2 := boxes1_keep (by assumption) hT; have HTb : Hid (Touch (fun _ => False) _ w') := hT; (try (have hz1 := (hT.block _ (lt_of_heap HZ1.out) id).trans HZ1.out; have HZ2 : Hid (w'.heap[_]? = some _) := hz1; have q0 := cell_of_block (i := 0) hz1; have q1 := cell_of_block (i := 1) hz1; have q2 := cell_of_block (i := 2) hz1; have q3 := cell_of_block (i := 3) hz1; have r0 := free_of_block (i := 0) hz1; have r1 := free_of_block (i := 1) hz1; have r2 := free_of_block (i := 2) hz1; have r3 := free_of_block (i := 3) hz1; clear hz1)); clear hT))
    · go_wp2_with fail
      go_meet
      case rel => exact ⟨_, rfl, rel_alloc hS2 (HTa.out.trans HTb.out) HW5d.out HW6d.out⟩
    · go_wp2_with fail
      go_meet
      case rel => exact ⟨_, rfl, rel_put4 hS2 HAB.out HZ2.out ((HTa.out.alloc _).trans HTb.out) HTa.out.size HW5d.out HW6d.out⟩
    · go_wp2_with fail
      go_meet
      case rel => exact ⟨_, rfl, rel_put4 hS2 HAB.out HZ2.out (((touch_alloc_drew w8 _).trans HTa.out).trans HTb.out) (Nat.le_refl w8.heap.size) HW5d.out HW6d.out⟩
  case rest =>
    obtain ⟨B, rfl, hS, HW⟩ := hcut
    have HW5 : Hid (Wr wc P5 BY) := HW.out.1
    have HW6 : Hid (Wr wc P6 BY) := HW.out.2
    clear HW hcl c1 c2 c3 c4 HT1
    obtain ⟨c1, c2, c3, c4, c5, c6, c7, c8, HT1⟩ := hS
    have hb64 := f64bits_run
    go_upto_region 10 with fail
    go_cut [12] (fun t wx => t = .bool (k == 2 || k == 3) ∧ wx = wc)
    case first =>
      cases h2 : (k == 2) <;> cases h3 : (k == 3)
      all_goals
        go_wp2_with fail
        go_meet
        case rel => exact ⟨by simp [h2, h3], rfl⟩
    case rest =>
      obtain ⟨rfl, rfl⟩ := hcut
      have HK2 := HKF.out
      try simp only at HK2
      generalize (k == 2 || k == 3) = num at *
      have HK3 : Hid ((num = true ∧ K = 3 ∧ F = 9221120237041090560) ∨ (num = false ∧ K = 0)) := HK2
      clear HKF HA HK2
      have hb2 := boxes2_keep ⟨c1, c2, c3, c4, c5, c6, c7, c8, HT1⟩ (show Touch (fun _ => False) wc wc.drew from (Touch.refl _ _).drew)
      have HW5 : Hid (Wr wc.drew P5 BY) := HW5.out.keep (Touch.refl (fun _ => False) wc).drew (fun _ _ => id)
      have HW6 : Hid (Wr wc.drew P6 BY) := HW6.out.keep (Touch.refl (fun _ => False) wc).drew (fun _ _ => id)
      clear c1 c2 c3 c4 c5 c6 c7 c8 HT1 hfx hfy
      go_wp2_with fail
      rcases HK3.out with ⟨rfl, rfl, rfl⟩ | ⟨rfl, rfl⟩
      · clear HK3
        refine wp_region_noPanic ?_
        refine wp_region_held_drew (S := (fun w' : World => w'.cell? ⟨w.heap.size, 0, none⟩ = some (.int .i64 k) ∧ w'.cell? ⟨w.heap.size, 1, none⟩ = some (.int .i64 n) ∧ w'.cell? ⟨w.heap.size, 2, none⟩ = some (.float .f64 f) ∧ w'.cell? ⟨w.heap.size, 3, none⟩ = some (.string s) ∧ w'.cell? ⟨B, 0, none⟩ = some (.int .i64 3) ∧ w'.cell? ⟨B, 1, none⟩ = some (.int .i64 0) ∧ w'.cell? ⟨B, 2, none⟩ = some (.float .f64 9221120237041090560) ∧ w'.cell? ⟨B, 3, none⟩ = some (.string ⟨#[]⟩) ∧ Hid (Touch (fun _ => False) w w'))) (by kernel_rfl) hb2 (fun hHeld => ?_)
        refine wpAnyH_take (i := 0) (oi := { dst := some 47, op := Op.move (Operand.tmp 7), type := 22, pos := "more.go:26", after := #[], guard := none }) (v := (.float .f64 X)) rfl (by kernel_rfl) (by kernel_rfl) (by kernel_rfl) (fun _ _ _ h => h) (Or.inl ⟨by rfl, ?_⟩) hHeld ?_
        · intro w' hSw; (try dsimp only at hSw); go_simp
        simp only [Act.put, List.setIfInBounds_toArray, List.set_cons_zero, List.set_cons_succ]
        refine wpAnyH_take (i := 2) (oi := { dst := some 49, op := Op.move (Operand.tmp 8), type := 22, pos := "more.go:26", after := #[], guard := none }) (v := (.float .f64 Y)) rfl (by kernel_rfl) (by kernel_rfl) (by kernel_rfl) (fun _ _ _ h => h) (Or.inl ⟨by rfl, ?_⟩) hHeld ?_
        · intro w' hSw; (try dsimp only at hSw); go_simp
        simp only [Act.put, List.setIfInBounds_toArray, List.set_cons_zero, List.set_cons_succ]
        refine wpAnyH_ready (rs := [1]) (by kernel_rfl) (by simp) ?_
        refine AllReadyH.cons (o := { dst := some 48, op := Op.call { callee := Callee.value (Operand.func 15), args := #[Operand.tmp 47], argTypes := #[22] }, type := 24, pos := "more.go:26", after := #[{ on := 0, ground := Ground.data }], guard := none }) rfl (fun K hK => ?_) AllReadyH.nil
        go_simp
        refine (l_float _ _).mono ?_
        rintro e w' ⟨rfl, hw⟩
        have hT := touch_of_alloc hw
        have hS2 := boxes2_keep hHeld hT; have HW5 : Hid (Wr w' P5 BY) := HW5.out.keep hT (fun _ _ => id); have HW6 : Hid (Wr w' P6 BY) := HW6.out.keep hT (fun _ _ => id)
        clear hw hT
        refine hK.out _ _ hS2 (fun hHeld => ?_)
        clear hK K
        try dsimp only
        refine wpAnyH_ready (rs := [3]) (by kernel_rfl) (by simp) ?_
        refine AllReadyH.cons (o := { dst := some 50, op := Op.call { callee := Callee.value (Operand.func 15), args := #[Operand.tmp 49], argTypes := #[22] }, type := 24, pos := "more.go:26", after := #[{ on := 2, ground := Ground.data }, { on := 1, ground := Ground.chain }], guard := none }) rfl (fun K hK => ?_) AllReadyH.nil
        go_simp
        refine (l_float _ _).mono ?_
        rintro e w' ⟨rfl, hw⟩
        have hT := touch_of_alloc hw
        have hS2 := boxes2_keep hHeld hT; have HW5 : Hid (Wr w' P5 BY) := HW5.out.keep hT (fun _ _ => id); have HW6 : Hid (Wr w' P6 BY) := HW6.out.keep hT (fun _ _ => id)
        clear hw hT
        refine hK.out _ _ hS2 (fun hHeld => ?_)
        clear hK K
        try dsimp only
        refine wpAnyH_ready (rs := [4]) (by kernel_rfl) (by simp) ?_
        refine AllReadyH.cons (o := { dst := some 51, op := Op.call { callee := Callee.value (Operand.func 16), args := #[Operand.tmp 48, Operand.tmp 50], argTypes := #[24, 24] }, type := 4, pos := "more.go:26", after := #[{ on := 1, ground := Ground.data }, { on := 3, ground := Ground.data }, { on := 3, ground := Ground.chain }], guard := none }) rfl (fun K hK => ?_) AllReadyH.nil
        go_simp
        refine (HSm.out _).mono ?_
        rintro e w' ⟨rfl, hT⟩
        have hS2 := boxes2_keep hHeld hT; have HW5 : Hid (Wr w' P5 BY) := HW5.out.keep hT (fun _ _ => id); have HW6 : Hid (Wr w' P6 BY) := HW6.out.keep hT (fun _ _ => id)
        clear hT
        refine hK.out _ _ hS2 (fun hHeld => ?_)
        clear hK K
        try dsimp only
        refine wpAnyH_take (i := 5) (oi := { dst := some 52, op := Op.move (Operand.tmp 51), type := 4, pos := "more.go:26", after := #[{ on := 4, ground := Ground.data }, { on := 4, ground := Ground.chain }], guard := none }) (v := (.bool true)) rfl (by kernel_rfl) (by kernel_rfl) (by kernel_rfl) (fun _ _ _ h => h) (Or.inl ⟨by rfl, ?_⟩) hHeld ?_
        · intro w' hSw; (try dsimp only at hSw); go_simp
        simp only [Act.put, List.setIfInBounds_toArray, List.set_cons_zero, List.set_cons_succ]
        refine wpAnyH_ready (rs := [6]) (by kernel_rfl) (by simp) ?_
        refine AllReadyH.cons (o := { dst := some 53, op := Op.call { callee := Callee.value (Operand.func 17), args := #[Operand.tmp 9], argTypes := #[36] }, type := 34, pos := "more.go:26", after := #[{ on := 5, ground := Ground.chain }, { on := 5, ground := Ground.guard }], guard := some (5, true) }) rfl (fun K hK => ?_) AllReadyH.nil
        go_simp
        refine (wbytes_any P5 BY _ HW5.out HLy.out).mono ?_
        rintro e w' ⟨v, rfl, hown, hT⟩
        obtain ⟨ao5, cap5, g5, rfl, hL, hX⟩ := lies_of_owned hown
        clear hX
        have hS2 := boxes2_keep hHeld hT; have HW5 : Hid (Wr w' P5 BY) := HW5.out.keep hT (fun _ _ => id); have HW6 : Hid (Wr w' P6 BY) := HW6.out.keep hT (fun _ _ => id)
        have HL5 : Hid (Lies w' g5 ao5 BY) := hL
        have hcv5 := lies_string hL BY.length cap5 rfl
        clear hT hown hL
        refine hK.out _ _ hS2 (fun hHeld => ?_)
        clear hK K
        try dsimp only
        refine wpAnyH_strong (S' := fun w' : World => (w'.cell? ⟨w.heap.size, 0, none⟩ = some (.int .i64 k) ∧ w'.cell? ⟨w.heap.size, 1, none⟩ = some (.int .i64 n) ∧ w'.cell? ⟨w.heap.size, 2, none⟩ = some (.float .f64 f) ∧ w'.cell? ⟨w.heap.size, 3, none⟩ = some (.string s) ∧ w'.cell? ⟨B, 0, none⟩ = some (.int .i64 3) ∧ w'.cell? ⟨B, 1, none⟩ = some (.int .i64 0) ∧ w'.cell? ⟨B, 2, none⟩ = some (.float .f64 9221120237041090560) ∧ w'.cell? ⟨B, 3, none⟩ = some (.string ⟨#[]⟩) ∧ Hid (Touch (fun _ => False) w w')) ∧ Hid (Lies w' g5 ao5 BY)) (fun w' h => h.1) _ _ _ _ ?_
        have hHeldL := And.intro hHeld HL5
        clear hHeld HL5 hcv5
        have hHeld := hHeldL
        clear hHeldL
        refine wpAnyH_take (i := 7) (oi := { dst := some 54, op := Op.convert 34 9 (Operand.tmp 53), type := 9, pos := "more.go:26", after := #[{ on := 6, ground := Ground.data }, { on := 5, ground := Ground.guard }], guard := some (5, true) }) (v := (.string ⟨BY.toArray⟩)) rfl (by kernel_rfl) (by kernel_rfl) (by kernel_rfl) (fun _ _ _ h => h) (Or.inl ⟨by rfl, ?_⟩) hHeld ?_
        · intro w' hSw; have hcv := lies_string hSw.2.out BY.length cap5 rfl; go_simp
        simp only [Act.put, List.setIfInBounds_toArray, List.set_cons_zero, List.set_cons_succ]
        refine wpAnyH_ready (rs := [8]) (by kernel_rfl) (by simp) ?_
        refine AllReadyH.cons (o := { dst := some 55, op := Op.call { callee := Callee.value (Operand.func 17), args := #[Operand.tmp 10], argTypes := #[36] }, type := 34, pos := "more.go:26", after := #[{ on := 6, ground := Ground.chain }, { on := 5, ground := Ground.guard }], guard := some (5, true) }) rfl (fun K hK => ?_) AllReadyH.nil
        go_simp
        refine (wbytes_any P6 BY _ HW6.out HLy.out).mono ?_
        rintro e w' ⟨v, rfl, hown, hT⟩
        obtain ⟨ao6, cap6, g6, rfl, hL, hX⟩ := lies_of_owned hown
        clear hX
        have hS2 := boxesL_keep hHeld hT; have HW5 : Hid (Wr w' P5 BY) := HW5.out.keep hT (fun _ _ => id); have HW6 : Hid (Wr w' P6 BY) := HW6.out.keep hT (fun _ _ => id)
        have hcv6 := lies_string hL BY.length cap6 rfl
        clear hT hown hL
        refine hK.out _ _ hS2 (fun hHeld => ?_)
        clear hK K
        try dsimp only
        refine wpAnyH_ready (rs := [9]) (by kernel_rfl) (by simp) ?_
        refine AllReadyH.cons (o := { dst := some 56, op := Op.convert 34 9 (Operand.tmp 55), type := 9, pos := "more.go:26", after := #[{ on := 8, ground := Ground.data }, { on := 5, ground := Ground.guard }], guard := some (5, true) }) rfl (fun K hK => ?_) AllReadyH.nil
        go_simp
        have hS2 := hHeld
        refine hK.out _ _ hS2 (fun hHeld => ?_)
        clear hK K
        try dsimp only
        refine wpAnyH_take (i := 10) (oi := { dst := some 57, op := Op.binOp BinOp.eql 9 (Operand.tmp 54) (Operand.tmp 56) 9, type := 4, pos := "more.go:26", after := #[{ on := 7, ground := Ground.data }, { on := 9, ground := Ground.data }, { on := 5, ground := Ground.guard }], guard := some (5, true) }) (v := (.bool true)) rfl (by kernel_rfl) (by kernel_rfl) (by kernel_rfl) (fun _ _ _ h => h) (Or.inl ⟨by rfl, ?_⟩) hHeld ?_
        · intro w' hSw; (try dsimp only at hSw); go_simp
        simp only [Act.put, List.setIfInBounds_toArray, List.set_cons_zero, List.set_cons_succ]
        refine wpAnyH_take (i := 11) (oi := { dst := some 58, op := Op.pick (Operand.tmp 52) (Operand.tmp 57) (Operand.const (Value.bool false)), type := 4, pos := "more.go:26", after := #[{ on := 5, ground := Ground.data }, { on := 10, ground := Ground.data }], guard := none }) (v := (.bool true)) rfl (by kernel_rfl) (by kernel_rfl) (by kernel_rfl) (fun _ _ _ h => h) (Or.inl ⟨by rfl, ?_⟩) hHeld ?_
        · intro w' hSw; (try dsimp only at hSw); go_simp
        simp only [Act.put, List.setIfInBounds_toArray, List.set_cons_zero, List.set_cons_succ]
        refine wpAnyH_take (i := 12) (oi := { dst := some 59, op := Op.move (Operand.tmp 58), type := 4, pos := "more.go:26", after := #[{ on := 11, ground := Ground.data }, { on := 8, ground := Ground.chain }], guard := none }) (v := (.bool true)) rfl (by kernel_rfl) (by kernel_rfl) (by kernel_rfl) (fun _ _ _ h => h) (Or.inl ⟨by rfl, ?_⟩) hHeld ?_
        · intro w' hSw; (try dsimp only at hSw); go_simp
        simp only [Act.put, List.setIfInBounds_toArray, List.set_cons_zero, List.set_cons_succ]
        refine wpAnyH_take (i := 13) (oi := { dst := some 60, op := Op.move (Operand.tmp 7), type := 22, pos := "more.go:26", after := #[{ on := 12, ground := Ground.guard }], guard := some (12, true) }) (v := (.float .f64 X)) rfl (by kernel_rfl) (by kernel_rfl) (by kernel_rfl) (fun _ _ _ h => h) (Or.inl ⟨by rfl, ?_⟩) hHeld ?_
        · intro w' hSw; (try dsimp only at hSw); go_simp
        simp only [Act.put, List.setIfInBounds_toArray, List.set_cons_zero, List.set_cons_succ]
        refine wpAnyH_ready (rs := [14]) (by kernel_rfl) (by simp) ?_
        refine AllReadyH.cons (o := { dst := some 61, op := Op.call { callee := Callee.value (Operand.func 15), args := #[Operand.tmp 60], argTypes := #[22] }, type := 24, pos := "more.go:26", after := #[{ on := 13, ground := Ground.data }, { on := 12, ground := Ground.chain }, { on := 12, ground := Ground.guard }], guard := some (12, true) }) rfl (fun K hK => ?_) AllReadyH.nil
        go_simp
        refine (l_float _ _).mono ?_
        rintro e w' ⟨rfl, hw⟩
        have hT := touch_of_alloc hw
        have hS2 := boxesL_keep hHeld hT; have HW5 : Hid (Wr w' P5 BY) := HW5.out.keep hT (fun _ _ => id); have HW6 : Hid (Wr w' P6 BY) := HW6.out.keep hT (fun _ _ => id)
        clear hw hT
        refine hK.out _ _ hS2 (fun hHeld => ?_)
        clear hK K
        try dsimp only
        refine wpAnyH_ready (rs := [15]) (by kernel_rfl) (by simp) ?_
        refine AllReadyH.cons (o := { dst := some 62, op := Op.call { callee := Callee.value (Operand.func 18), args := #[Operand.tmp 61], argTypes := #[24] }, type := 9, pos := "more.go:26", after := #[{ on := 14, ground := Ground.data }, { on := 14, ground := Ground.chain }, { on := 12, ground := Ground.guard }], guard := some (12, true) }) rfl (fun K hK => ?_) AllReadyH.nil
        go_simp
        refine (HTx.out _).mono ?_
        rintro e w' ⟨rfl, hT⟩
        have hS2 := boxesL_keep hHeld hT; have HW5 : Hid (Wr w' P5 BY) := HW5.out.keep hT (fun _ _ => id); have HW6 : Hid (Wr w' P6 BY) := HW6.out.keep hT (fun _ _ => id)
        clear hT
        refine hK.out _ _ hS2 (fun hHeld => ?_)
        clear hK K
        try dsimp only
        refine wpAnyH_take (i := 16) (oi := { dst := some 63, op := Op.binOp BinOp.eql 9 (Operand.tmp 62) (Operand.const (Value.string { data := #[102, 55, 102, 102, 56, 48, 48, 48, 48, 48, 48, 48, 48, 48, 48, 48, 48] })) 9, type := 4, pos := "more.go:26", after := #[{ on := 15, ground := Ground.data }, { on := 12, ground := Ground.guard }], guard := some (12, true) }) (v := (.bool true)) rfl (by kernel_rfl) (by kernel_rfl) (by kernel_rfl) (fun _ _ _ h => h) (Or.inl ⟨by rfl, ?_⟩) hHeld ?_
        · intro w' hSw; (try dsimp only at hSw); go_simp
        simp only [Act.put, List.setIfInBounds_toArray, List.set_cons_zero, List.set_cons_succ]
        refine wpAnyH_take (i := 17) (oi := { dst := some 64, op := Op.pick (Operand.tmp 59) (Operand.tmp 63) (Operand.const (Value.bool false)), type := 4, pos := "more.go:26", after := #[{ on := 12, ground := Ground.data }, { on := 16, ground := Ground.data }], guard := none }) (v := (.bool true)) rfl (by kernel_rfl) (by kernel_rfl) (by kernel_rfl) (fun _ _ _ h => h) (Or.inl ⟨by rfl, ?_⟩) hHeld ?_
        · intro w' hSw; (try dsimp only at hSw); go_simp
        simp only [Act.put, List.setIfInBounds_toArray, List.set_cons_zero, List.set_cons_succ]
        refine wpAnyH_take (i := 18) (oi := { dst := some 65, op := Op.move (Operand.tmp 64), type := 4, pos := "more.go:26", after := #[{ on := 17, ground := Ground.data }, { on := 15, ground := Ground.chain }], guard := none }) (v := (.bool true)) rfl (by kernel_rfl) (by kernel_rfl) (by kernel_rfl) (fun _ _ _ h => h) (Or.inl ⟨by rfl, ?_⟩) hHeld ?_
        · intro w' hSw; (try dsimp only at hSw); go_simp
        simp only [Act.put, List.setIfInBounds_toArray, List.set_cons_zero, List.set_cons_succ]
        refine wpAnyH_take (i := 19) (oi := { dst := some 66, op := Op.move (Operand.tmp 8), type := 22, pos := "more.go:26", after := #[{ on := 18, ground := Ground.guard }], guard := some (18, true) }) (v := (.float .f64 Y)) rfl (by kernel_rfl) (by kernel_rfl) (by kernel_rfl) (fun _ _ _ h => h) (Or.inl ⟨by rfl, ?_⟩) hHeld ?_
        · intro w' hSw; (try dsimp only at hSw); go_simp
        simp only [Act.put, List.setIfInBounds_toArray, List.set_cons_zero, List.set_cons_succ]
        refine wpAnyH_take (i := 22) (oi := { dst := some 69, op := Op.move (Operand.tmp 7), type := 22, pos := "more.go:26", after := #[{ on := 18, ground := Ground.guard }], guard := some (18, true) }) (v := (.float .f64 X)) rfl (by kernel_rfl) (by kernel_rfl) (by kernel_rfl) (fun _ _ _ h => h) (Or.inl ⟨by rfl, ?_⟩) hHeld ?_
        · intro w' hSw; (try dsimp only at hSw); go_simp
        simp only [Act.put, List.setIfInBounds_toArray, List.set_cons_zero, List.set_cons_succ]
        refine wpAnyH_ready (rs := [20]) (by kernel_rfl) (by simp) ?_
        refine AllReadyH.cons (o := { dst := some 67, op := Op.call { callee := Callee.value (Operand.func 15), args := #[Operand.tmp 66], argTypes := #[22] }, type := 24, pos := "more.go:26", after := #[{ on := 19, ground := Ground.data }, { on := 18, ground := Ground.chain }, { on := 18, ground := Ground.guard }], guard := some (18, true) }) rfl (fun K hK => ?_) AllReadyH.nil
        go_simp
        refine (l_float _ _).mono ?_
        rintro e w' ⟨rfl, hw⟩
        have hT := touch_of_alloc hw
        have hS2 := boxesL_keep hHeld hT; have HW5 : Hid (Wr w' P5 BY) := HW5.out.keep hT (fun _ _ => id); have HW6 : Hid (Wr w' P6 BY) := HW6.out.keep hT (fun _ _ => id)
        clear hw hT
        refine hK.out _ _ hS2 (fun hHeld => ?_)
        clear hK K
        try dsimp only
        refine wpAnyH_ready (rs := [21]) (by kernel_rfl) (by simp) ?_
        refine AllReadyH.cons (o := { dst := some 68, op := Op.call { callee := Callee.value (Operand.func 18), args := #[Operand.tmp 67], argTypes := #[24] }, type := 9, pos := "more.go:26", after := #[{ on := 20, ground := Ground.data }, { on := 20, ground := Ground.chain }, { on := 18, ground := Ground.guard }], guard := some (18, true) }) rfl (fun K hK => ?_) AllReadyH.nil
        go_simp
        refine (HTy.out _).mono ?_
        rintro e w' ⟨rfl, hT⟩
        have hS2 := boxesL_keep hHeld hT; have HW5 : Hid (Wr w' P5 BY) := HW5.out.keep hT (fun _ _ => id); have HW6 : Hid (Wr w' P6 BY) := HW6.out.keep hT (fun _ _ => id)
        clear hT
        refine hK.out _ _ hS2 (fun hHeld => ?_)
        clear hK K
        try dsimp only
        refine wpAnyH_ready (rs := [23]) (by kernel_rfl) (by simp) ?_
        refine AllReadyH.cons (o := { dst := some 70, op := Op.call { callee := Callee.value (Operand.func 15), args := #[Operand.tmp 69], argTypes := #[22] }, type := 24, pos := "more.go:26", after := #[{ on := 22, ground := Ground.data }, { on := 21, ground := Ground.chain }, { on := 18, ground := Ground.guard }], guard := some (18, true) }) rfl (fun K hK => ?_) AllReadyH.nil
        go_simp
        refine (l_float _ _).mono ?_
        rintro e w' ⟨rfl, hw⟩
        have hT := touch_of_alloc hw
        have hS2 := boxesL_keep hHeld hT; have HW5 : Hid (Wr w' P5 BY) := HW5.out.keep hT (fun _ _ => id); have HW6 : Hid (Wr w' P6 BY) := HW6.out.keep hT (fun _ _ => id)
        clear hw hT
        refine hK.out _ _ hS2 (fun hHeld => ?_)
        clear hK K
        try dsimp only
        refine wpAnyH_ready (rs := [24]) (by kernel_rfl) (by simp) ?_
        refine AllReadyH.cons (o := { dst := some 71, op := Op.call { callee := Callee.value (Operand.func 18), args := #[Operand.tmp 70], argTypes := #[24] }, type := 9, pos := "more.go:26", after := #[{ on := 23, ground := Ground.data }, { on := 23, ground := Ground.chain }, { on := 18, ground := Ground.guard }], guard := some (18, true) }) rfl (fun K hK => ?_) AllReadyH.nil
        go_simp
        refine (HTx.out _).mono ?_
        rintro e w' ⟨rfl, hT⟩
        have hS2 := boxesL_keep hHeld hT; have HW5 : Hid (Wr w' P5 BY) := HW5.out.keep hT (fun _ _ => id); have HW6 : Hid (Wr w' P6 BY) := HW6.out.keep hT (fun _ _ => id)
        clear hT
        refine hK.out _ _ hS2 (fun hHeld => ?_)
        clear hK K
        try dsimp only
        refine wpAnyH_take (i := 25) (oi := { dst := some 72, op := Op.binOp BinOp.eql 9 (Operand.tmp 68) (Operand.tmp 71) 9, type := 4, pos := "more.go:26", after := #[{ on := 21, ground := Ground.data }, { on := 24, ground := Ground.data }, { on := 18, ground := Ground.guard }], guard := some (18, true) }) (v := (.bool true)) rfl (by kernel_rfl) (by kernel_rfl) (by kernel_rfl) (fun _ _ _ h => h) (Or.inl ⟨by rfl, ?_⟩) hHeld ?_
        · intro w' hSw; (try dsimp only at hSw); go_simp
        simp only [Act.put, List.setIfInBounds_toArray, List.set_cons_zero, List.set_cons_succ]
        refine wpAnyH_take (i := 26) (oi := { dst := some 73, op := Op.pick (Operand.tmp 65) (Operand.tmp 72) (Operand.const (Value.bool false)), type := 4, pos := "more.go:26", after := #[{ on := 18, ground := Ground.data }, { on := 25, ground := Ground.data }], guard := none }) (v := (.bool true)) rfl (by kernel_rfl) (by kernel_rfl) (by kernel_rfl) (fun _ _ _ h => h) (Or.inl ⟨by rfl, ?_⟩) hHeld ?_
        · intro w' hSw; (try dsimp only at hSw); go_simp
        simp only [Act.put, List.setIfInBounds_toArray, List.set_cons_zero, List.set_cons_succ]
        refine wpAnyH_take (i := 27) (oi := { dst := some 74, op := Op.move (Operand.tmp 73), type := 4, pos := "more.go:26", after := #[{ on := 26, ground := Ground.data }, { on := 24, ground := Ground.chain }], guard := none }) (v := (.bool true)) rfl (by kernel_rfl) (by kernel_rfl) (by kernel_rfl) (fun _ _ _ h => h) (Or.inl ⟨by rfl, ?_⟩) hHeld ?_
        · intro w' hSw; (try dsimp only at hSw); go_simp
        simp only [Act.put, List.setIfInBounds_toArray, List.set_cons_zero, List.set_cons_succ]
        refine wpAnyH_take (i := 28) (oi := { dst := some 75, op := Op.move (Operand.tmp 7), type := 22, pos := "more.go:26", after := #[{ on := 27, ground := Ground.guard }], guard := some (27, true) }) (v := (.float .f64 X)) rfl (by kernel_rfl) (by kernel_rfl) (by kernel_rfl) (fun _ _ _ h => h) (Or.inl ⟨by rfl, ?_⟩) hHeld ?_
        · intro w' hSw; (try dsimp only at hSw); go_simp
        simp only [Act.put, List.setIfInBounds_toArray, List.set_cons_zero, List.set_cons_succ]
        refine wpAnyH_take (i := 30) (oi := { dst := some 77, op := Op.load 24 (Operand.tmp 5), type := 24, pos := "more.go:26", after := #[{ on := 27, ground := Ground.guard }], guard := some (27, true) }) (v := (.agg #[.int .i64 k, .int .i64 n, .float .f64 f, .string s])) rfl (by kernel_rfl) (by kernel_rfl) (by kernel_rfl) (fun _ _ _ h => h) (Or.inl ⟨by rfl, ?_⟩) hHeld ?_
        · intro w' hSw; (try dsimp only at hSw); go_simp
        simp only [Act.put, List.setIfInBounds_toArray, List.set_cons_zero, List.set_cons_succ]
        refine wpAnyH_take (i := 32) (oi := { dst := some 79, op := Op.move (Operand.tmp 8), type := 22, pos := "more.go:26", after := #[{ on := 27, ground := Ground.guard }], guard := some (27, true) }) (v := (.float .f64 Y)) rfl (by kernel_rfl) (by kernel_rfl) (by kernel_rfl) (fun _ _ _ h => h) (Or.inl ⟨by rfl, ?_⟩) hHeld ?_
        · intro w' hSw; (try dsimp only at hSw); go_simp
        simp only [Act.put, List.setIfInBounds_toArray, List.set_cons_zero, List.set_cons_succ]
        refine wpAnyH_take (i := 34) (oi := { dst := some 81, op := Op.load 24 (Operand.tmp 5), type := 24, pos := "more.go:26", after := #[{ on := 27, ground := Ground.guard }], guard := some (27, true) }) (v := (.agg #[.int .i64 k, .int .i64 n, .float .f64 f, .string s])) rfl (by kernel_rfl) (by kernel_rfl) (by kernel_rfl) (fun _ _ _ h => h) (Or.inl ⟨by rfl, ?_⟩) hHeld ?_
        · intro w' hSw; (try dsimp only at hSw); go_simp
        simp only [Act.put, List.setIfInBounds_toArray, List.set_cons_zero, List.set_cons_succ]
        refine wpAnyH_ready (rs := [29]) (by kernel_rfl) (by simp) ?_
        refine AllReadyH.cons (o := { dst := some 76, op := Op.call { callee := Callee.value (Operand.func 15), args := #[Operand.tmp 75], argTypes := #[22] }, type := 24, pos := "more.go:26", after := #[{ on := 28, ground := Ground.data }, { on := 27, ground := Ground.chain }, { on := 27, ground := Ground.guard }], guard := some (27, true) }) rfl (fun K hK => ?_) AllReadyH.nil
        go_simp
        refine (l_float _ _).mono ?_
        rintro e w' ⟨rfl, hw⟩
        have hT := touch_of_alloc hw
        have hS2 := boxesL_keep hHeld hT; have HW5 : Hid (Wr w' P5 BY) := HW5.out.keep hT (fun _ _ => id); have HW6 : Hid (Wr w' P6 BY) := HW6.out.keep hT (fun _ _ => id)
        clear hw hT
        refine hK.out _ _ hS2 (fun hHeld => ?_)
        clear hK K
        try dsimp only
        refine wpAnyH_ready (rs := [31]) (by kernel_rfl) (by simp) ?_
        refine AllReadyH.cons (o := { dst := some 78, op := Op.call { callee := Callee.value (Operand.func 19), args := #[Operand.tmp 76, Operand.tmp 77], argTypes := #[24, 24] }, type := 3, pos := "more.go:26", after := #[{ on := 29, ground := Ground.data }, { on := 30, ground := Ground.data }, { on := 29, ground := Ground.chain }, { on := 27, ground := Ground.guard }], guard := some (27, true) }) rfl (fun K hK => ?_) AllReadyH.nil
        go_simp
        refine (HCx.out _).mono ?_
        rintro e w' ⟨rfl, hT⟩
        have hS2 := boxesL_keep hHeld hT; have HW5 : Hid (Wr w' P5 BY) := HW5.out.keep hT (fun _ _ => id); have HW6 : Hid (Wr w' P6 BY) := HW6.out.keep hT (fun _ _ => id)
        clear hT
        refine hK.out _ _ hS2 (fun hHeld => ?_)
        clear hK K
        try dsimp only
        refine wpAnyH_ready (rs := [33]) (by kernel_rfl) (by simp) ?_
        refine AllReadyH.cons (o := { dst := some 80, op := Op.call { callee := Callee.value (Operand.func 15), args := #[Operand.tmp 79], argTypes := #[22] }, type := 24, pos := "more.go:26", after := #[{ on := 32, ground := Ground.data }, { on := 31, ground := Ground.chain }, { on := 27, ground := Ground.guard }], guard := some (27, true) }) rfl (fun K hK => ?_) AllReadyH.nil
        go_simp
        refine (l_float _ _).mono ?_
        rintro e w' ⟨rfl, hw⟩
        have hT := touch_of_alloc hw
        have hS2 := boxesL_keep hHeld hT; have HW5 : Hid (Wr w' P5 BY) := HW5.out.keep hT (fun _ _ => id); have HW6 : Hid (Wr w' P6 BY) := HW6.out.keep hT (fun _ _ => id)
        clear hw hT
        refine hK.out _ _ hS2 (fun hHeld => ?_)
        clear hK K
        try dsimp only
        refine wpAnyH_ready (rs := [35]) (by kernel_rfl) (by simp) ?_
        refine AllReadyH.cons (o := { dst := some 82, op := Op.call { callee := Callee.value (Operand.func 19), args := #[Operand.tmp 80, Operand.tmp 81], argTypes := #[24, 24] }, type := 3, pos := "more.go:26", after := #[{ on := 33, ground := Ground.data }, { on := 34, ground := Ground.data }, { on := 33, ground := Ground.chain }, { on := 27, ground := Ground.guard }], guard := some (27, true) }) rfl (fun K hK => ?_) AllReadyH.nil
        go_simp
        refine (HCy.out _).mono ?_
        rintro e w' ⟨rfl, hT⟩
        have hS2 := boxesL_keep hHeld hT; have HW5 : Hid (Wr w' P5 BY) := HW5.out.keep hT (fun _ _ => id); have HW6 : Hid (Wr w' P6 BY) := HW6.out.keep hT (fun _ _ => id)
        clear hT
        refine hK.out _ _ hS2 (fun hHeld => ?_)
        clear hK K
        try dsimp only
        refine wpAnyH_take (i := 36) (oi := { dst := some 83, op := Op.binOp BinOp.eql 3 (Operand.tmp 78) (Operand.tmp 82) 3, type := 4, pos := "more.go:26", after := #[{ on := 31, ground := Ground.data }, { on := 35, ground := Ground.data }, { on := 27, ground := Ground.guard }], guard := some (27, true) }) (v := (.bool true)) rfl (by kernel_rfl) (by kernel_rfl) (by kernel_rfl) (fun _ _ _ h => h) (Or.inl ⟨by rfl, ?_⟩) hHeld ?_
        · intro w' hSw; (try dsimp only at hSw); go_simp
        simp only [Act.put, List.setIfInBounds_toArray, List.set_cons_zero, List.set_cons_succ]
        refine wpAnyH_take (i := 37) (oi := { dst := some 84, op := Op.pick (Operand.tmp 74) (Operand.tmp 83) (Operand.const (Value.bool false)), type := 4, pos := "more.go:26", after := #[{ on := 27, ground := Ground.data }, { on := 36, ground := Ground.data }], guard := none }) (v := (.bool true)) rfl (by kernel_rfl) (by kernel_rfl) (by kernel_rfl) (fun _ _ _ h => h) (Or.inl ⟨by rfl, ?_⟩) hHeld ?_
        · intro w' hSw; (try dsimp only at hSw); go_simp
        simp only [Act.put, List.setIfInBounds_toArray, List.set_cons_zero, List.set_cons_succ]
        refine wpAnyH_take (i := 38) (oi := { dst := some 85, op := Op.move (Operand.tmp 84), type := 4, pos := "more.go:26", after := #[{ on := 37, ground := Ground.data }, { on := 35, ground := Ground.chain }], guard := none }) (v := (.bool true)) rfl (by kernel_rfl) (by kernel_rfl) (by kernel_rfl) (fun _ _ _ h => h) (Or.inl ⟨by rfl, ?_⟩) hHeld ?_
        · intro w' hSw; (try dsimp only at hSw); go_simp
        simp only [Act.put, List.setIfInBounds_toArray, List.set_cons_zero, List.set_cons_succ]
        refine wpAnyH_take (i := 39) (oi := { dst := some 86, op := Op.move (Operand.tmp 12), type := 4, pos := "more.go:26", after := #[{ on := 38, ground := Ground.guard }], guard := some (38, true) }) (v := (.bool true)) rfl (by kernel_rfl) (by kernel_rfl) (by kernel_rfl) (fun _ _ _ h => h) (Or.inl ⟨by rfl, ?_⟩) hHeld ?_
        · intro w' hSw; (try dsimp only at hSw); go_simp
        simp only [Act.put, List.setIfInBounds_toArray, List.set_cons_zero, List.set_cons_succ]
        refine wpAnyH_take (i := 40) (oi := { dst := some 87, op := Op.fieldAddr 24 (Operand.tmp 11) 0, type := 0, pos := "more.go:26", after := #[{ on := 38, ground := Ground.guard }], guard := some (38, true) }) (v := (.pointer (some ⟨B, 0, none⟩))) rfl (by kernel_rfl) (by kernel_rfl) (by kernel_rfl) (fun _ _ _ h => h) (Or.inl ⟨by rfl, ?_⟩) hHeld ?_
        · intro w' hSw; (try dsimp only at hSw); go_simp
        simp only [Act.put, List.setIfInBounds_toArray, List.set_cons_zero, List.set_cons_succ]
        refine wpAnyH_take (i := 41) (oi := { dst := some 88, op := Op.load 3 (Operand.tmp 87), type := 3, pos := "more.go:26", after := #[{ on := 40, ground := Ground.data }, { on := 38, ground := Ground.guard }], guard := some (38, true) }) (v := (.int .i64 3)) rfl (by kernel_rfl) (by kernel_rfl) (by kernel_rfl) (fun _ _ _ h => h) (Or.inl ⟨by rfl, ?_⟩) hHeld ?_
        · intro w' hSw; (try dsimp only at hSw); go_simp
        simp only [Act.put, List.setIfInBounds_toArray, List.set_cons_zero, List.set_cons_succ]
        refine wpAnyH_take (i := 42) (oi := { dst := some 89, op := Op.binOp BinOp.eql 3 (Operand.tmp 88) (Operand.const (Value.int IntKind.i64 3)) 3, type := 4, pos := "more.go:26", after := #[{ on := 41, ground := Ground.data }, { on := 38, ground := Ground.guard }], guard := some (38, true) }) (v := (.bool true)) rfl (by kernel_rfl) (by kernel_rfl) (by kernel_rfl) (fun _ _ _ h => h) (Or.inl ⟨by rfl, ?_⟩) hHeld ?_
        · intro w' hSw; (try dsimp only at hSw); go_simp
        simp only [Act.put, List.setIfInBounds_toArray, List.set_cons_zero, List.set_cons_succ]
        refine wpAnyH_take (i := 43) (oi := { dst := some 90, op := Op.binOp BinOp.eql 4 (Operand.tmp 86) (Operand.tmp 89) 4, type := 4, pos := "more.go:26", after := #[{ on := 39, ground := Ground.data }, { on := 42, ground := Ground.data }, { on := 38, ground := Ground.guard }], guard := some (38, true) }) (v := (.bool true)) rfl (by kernel_rfl) (by kernel_rfl) (by kernel_rfl) (fun _ _ _ h => h) (Or.inl ⟨by rfl, ?_⟩) hHeld ?_
        · intro w' hSw; (try dsimp only at hSw); go_simp
        simp only [Act.put, List.setIfInBounds_toArray, List.set_cons_zero, List.set_cons_succ]
        refine wpAnyH_take (i := 44) (oi := { dst := some 91, op := Op.pick (Operand.tmp 85) (Operand.tmp 90) (Operand.const (Value.bool false)), type := 4, pos := "more.go:26", after := #[{ on := 38, ground := Ground.data }, { on := 43, ground := Ground.data }], guard := none }) (v := (.bool true)) rfl (by kernel_rfl) (by kernel_rfl) (by kernel_rfl) (fun _ _ _ h => h) (Or.inl ⟨by rfl, ?_⟩) hHeld ?_
        · intro w' hSw; (try dsimp only at hSw); go_simp
        simp only [Act.put, List.setIfInBounds_toArray, List.set_cons_zero, List.set_cons_succ]
        refine wpAnyH_take (i := 45) (oi := { dst := some 92, op := Op.move (Operand.tmp 91), type := 4, pos := "more.go:26", after := #[{ on := 44, ground := Ground.data }, { on := 38, ground := Ground.chain }], guard := none }) (v := (.bool true)) rfl (by kernel_rfl) (by kernel_rfl) (by kernel_rfl) (fun _ _ _ h => h) (Or.inl ⟨by rfl, ?_⟩) hHeld ?_
        · intro w' hSw; (try dsimp only at hSw); go_simp
        simp only [Act.put, List.setIfInBounds_toArray, List.set_cons_zero, List.set_cons_succ]
        refine wpAnyH_take (i := 46) (oi := { dst := some 93, op := Op.move (Operand.tmp 12), type := 4, pos := "more.go:26", after := #[{ on := 45, ground := Ground.guard }], guard := some (45, true) }) (v := (.bool true)) rfl (by kernel_rfl) (by kernel_rfl) (by kernel_rfl) (fun _ _ _ h => h) (Or.inl ⟨by rfl, ?_⟩) hHeld ?_
        · intro w' hSw; (try dsimp only at hSw); go_simp
        simp only [Act.put, List.setIfInBounds_toArray, List.set_cons_zero, List.set_cons_succ]
        refine wpAnyH_take (i := 47) (oi := { dst := some 94, op := Op.unOp UnOp.not 4 (Operand.tmp 93), type := 4, pos := "more.go:26", after := #[{ on := 46, ground := Ground.data }, { on := 45, ground := Ground.guard }], guard := some (45, true) }) (v := (.bool false)) rfl (by kernel_rfl) (by kernel_rfl) (by kernel_rfl) (fun _ _ _ h => h) (Or.inl ⟨by rfl, ?_⟩) hHeld ?_
        · intro w' hSw; (try dsimp only at hSw); go_simp
        simp only [Act.put, List.setIfInBounds_toArray, List.set_cons_zero, List.set_cons_succ]
        refine wpAnyH_take (i := 48) (oi := { dst := some 95, op := Op.move (Operand.tmp 94), type := 4, pos := "more.go:26", after := #[{ on := 47, ground := Ground.data }, { on := 45, ground := Ground.chain }, { on := 45, ground := Ground.guard }], guard := some (45, true) }) (v := (.bool false)) rfl (by kernel_rfl) (by kernel_rfl) (by kernel_rfl) (fun _ _ _ h => h) (Or.inl ⟨by rfl, ?_⟩) hHeld ?_
        · intro w' hSw; (try dsimp only at hSw); go_simp
        simp only [Act.put, List.setIfInBounds_toArray, List.set_cons_zero, List.set_cons_succ]
        refine wpAnyH_take (i := 49) (oi := { dst := some 96, op := Op.fieldAddr 24 (Operand.tmp 11) 2, type := 0, pos := "more.go:26", after := #[{ on := 48, ground := Ground.guard }], guard := some (48, false) }) (v := (.pointer (some ⟨B, 2, none⟩))) rfl (by kernel_rfl) (by kernel_rfl) (by kernel_rfl) (fun _ _ _ h => h) (Or.inl ⟨by rfl, ?_⟩) hHeld ?_
        · intro w' hSw; (try dsimp only at hSw); go_simp
        simp only [Act.put, List.setIfInBounds_toArray, List.set_cons_zero, List.set_cons_succ]
        refine wpAnyH_take (i := 50) (oi := { dst := some 97, op := Op.load 22 (Operand.tmp 96), type := 22, pos := "more.go:26", after := #[{ on := 49, ground := Ground.data }, { on := 48, ground := Ground.guard }], guard := some (48, false) }) (v := (.float .f64 9221120237041090560)) rfl (by kernel_rfl) (by kernel_rfl) (by kernel_rfl) (fun _ _ _ h => h) (Or.inl ⟨by rfl, ?_⟩) hHeld ?_
        · intro w' hSw; (try dsimp only at hSw); go_simp
        simp only [Act.put, List.setIfInBounds_toArray, List.set_cons_zero, List.set_cons_succ]
        refine wpAnyH_ready (rs := [51]) (by kernel_rfl) (by simp) ?_
        refine AllReadyH.cons (o := { dst := some 98, op := Op.call { callee := Callee.value (Operand.func 20), args := #[Operand.tmp 97], argTypes := #[22] }, type := 31, pos := "more.go:26", after := #[{ on := 50, ground := Ground.data }, { on := 48, ground := Ground.chain }, { on := 48, ground := Ground.guard }], guard := some (48, false) }) rfl (fun K hK => ?_) AllReadyH.nil
        go_simp
        have hS2 := hHeld
        refine hK.out _ _ hS2 (fun hHeld => ?_)
        clear hK K
        try dsimp only
        refine wpAnyH_take (i := 52) (oi := { dst := some 99, op := Op.binOp BinOp.eql 31 (Operand.tmp 98) (Operand.const (Value.int IntKind.u64 9221120237041090560)) 31, type := 4, pos := "more.go:26", after := #[{ on := 51, ground := Ground.data }, { on := 48, ground := Ground.guard }], guard := some (48, false) }) (v := (.bool true)) rfl (by kernel_rfl) (by kernel_rfl) (by kernel_rfl) (fun _ _ _ h => h) (Or.inl ⟨by rfl, ?_⟩) hHeld ?_
        · intro w' hSw; (try dsimp only at hSw); go_simp
        simp only [Act.put, List.setIfInBounds_toArray, List.set_cons_zero, List.set_cons_succ]
        refine wpAnyH_take (i := 53) (oi := { dst := some 100, op := Op.pick (Operand.tmp 95) (Operand.const (Value.bool true)) (Operand.tmp 99), type := 4, pos := "more.go:26", after := #[{ on := 48, ground := Ground.data }, { on := 52, ground := Ground.data }, { on := 45, ground := Ground.guard }], guard := some (45, true) }) (v := (.bool true)) rfl (by kernel_rfl) (by kernel_rfl) (by kernel_rfl) (fun _ _ _ h => h) (Or.inl ⟨by rfl, ?_⟩) hHeld ?_
        · intro w' hSw; (try dsimp only at hSw); go_simp
        simp only [Act.put, List.setIfInBounds_toArray, List.set_cons_zero, List.set_cons_succ]
        refine wpAnyH_take (i := 54) (oi := { dst := some 101, op := Op.pick (Operand.tmp 92) (Operand.tmp 100) (Operand.const (Value.bool false)), type := 4, pos := "more.go:26", after := #[{ on := 45, ground := Ground.data }, { on := 53, ground := Ground.data }], guard := none }) (v := (.bool true)) rfl (by kernel_rfl) (by kernel_rfl) (by kernel_rfl) (fun _ _ _ h => h) (Or.inl ⟨by rfl, ?_⟩) hHeld ?_
        · intro w' hSw; (try dsimp only at hSw); go_simp
        simp only [Act.put, List.setIfInBounds_toArray, List.set_cons_zero, List.set_cons_succ]
        refine wpAnyH_take (i := 55) (oi := { dst := some 6, op := Op.assign (Operand.tmp 101), type := 4, pos := "more.go:26", after := #[{ on := 54, ground := Ground.data }, { on := 51, ground := Ground.chain }, { on := 0, ground := Ground.phase }, { on := 1, ground := Ground.phase }, { on := 2, ground := Ground.phase }, { on := 3, ground := Ground.phase }, { on := 4, ground := Ground.phase }, { on := 5, ground := Ground.phase }, { on := 6, ground := Ground.phase }, { on := 7, ground := Ground.phase }, { on := 8, ground := Ground.phase }, { on := 9, ground := Ground.phase }, { on := 10, ground := Ground.phase }, { on := 11, ground := Ground.phase }, { on := 12, ground := Ground.phase }, { on := 13, ground := Ground.phase }, { on := 14, ground := Ground.phase }, { on := 15, ground := Ground.phase }, { on := 16, ground := Ground.phase }, { on := 17, ground := Ground.phase }, { on := 18, ground := Ground.phase }, { on := 19, ground := Ground.phase }, { on := 20, ground := Ground.phase }, { on := 21, ground := Ground.phase }, { on := 22, ground := Ground.phase }, { on := 23, ground := Ground.phase }, { on := 24, ground := Ground.phase }, { on := 25, ground := Ground.phase }, { on := 26, ground := Ground.phase }, { on := 27, ground := Ground.phase }, { on := 28, ground := Ground.phase }, { on := 29, ground := Ground.phase }, { on := 30, ground := Ground.phase }, { on := 31, ground := Ground.phase }, { on := 32, ground := Ground.phase }, { on := 33, ground := Ground.phase }, { on := 34, ground := Ground.phase }, { on := 35, ground := Ground.phase }, { on := 36, ground := Ground.phase }, { on := 37, ground := Ground.phase }, { on := 38, ground := Ground.phase }, { on := 39, ground := Ground.phase }, { on := 40, ground := Ground.phase }, { on := 41, ground := Ground.phase }, { on := 42, ground := Ground.phase }, { on := 43, ground := Ground.phase }, { on := 44, ground := Ground.phase }, { on := 45, ground := Ground.phase }, { on := 46, ground := Ground.phase }, { on := 47, ground := Ground.phase }, { on := 48, ground := Ground.phase }, { on := 49, ground := Ground.phase }, { on := 50, ground := Ground.phase }, { on := 51, ground := Ground.phase }, { on := 52, ground := Ground.phase }, { on := 53, ground := Ground.phase }, { on := 54, ground := Ground.phase }], guard := none }) (v := (.bool true)) rfl (by kernel_rfl) (by kernel_rfl) (by kernel_rfl) (fun _ _ _ h => h) (Or.inl ⟨by rfl, ?_⟩) hHeld ?_
        · intro w' hSw; (try dsimp only at hSw); go_simp
        simp only [Act.put, List.setIfInBounds_toArray, List.set_cons_zero, List.set_cons_succ]
        refine wpAnyH_done (by kernel_rfl) ?_ _
        have HT5 : Hid (Touch (fun _ => False) w _) := hHeld.1.2.2.2.2.2.2.2.2
        clear hHeld
        first | refine NoPanic.normal ?_ | skip
        go_wp2_with fail
        go_ret
        exact ⟨rfl, HT5.out⟩
      · clear HK3
        refine wp_region_noPanic ?_
        refine wp_region_held_drew (S := (fun w' : World => w'.cell? ⟨w.heap.size, 0, none⟩ = some (.int .i64 k) ∧ w'.cell? ⟨w.heap.size, 1, none⟩ = some (.int .i64 n) ∧ w'.cell? ⟨w.heap.size, 2, none⟩ = some (.float .f64 f) ∧ w'.cell? ⟨w.heap.size, 3, none⟩ = some (.string s) ∧ w'.cell? ⟨B, 0, none⟩ = some (.int .i64 0) ∧ w'.cell? ⟨B, 1, none⟩ = some (.int .i64 0) ∧ w'.cell? ⟨B, 2, none⟩ = some (.float .f64 F) ∧ w'.cell? ⟨B, 3, none⟩ = some (.string ⟨#[]⟩) ∧ Hid (Touch (fun _ => False) w w'))) (by kernel_rfl) hb2 (fun hHeld => ?_)
        refine wpAnyH_take (i := 0) (oi := { dst := some 47, op := Op.move (Operand.tmp 7), type := 22, pos := "more.go:26", after := #[], guard := none }) (v := (.float .f64 X)) rfl (by kernel_rfl) (by kernel_rfl) (by kernel_rfl) (fun _ _ _ h => h) (Or.inl ⟨by rfl, ?_⟩) hHeld ?_
        · intro w' hSw; (try dsimp only at hSw); go_simp
        simp only [Act.put, List.setIfInBounds_toArray, List.set_cons_zero, List.set_cons_succ]
        refine wpAnyH_take (i := 2) (oi := { dst := some 49, op := Op.move (Operand.tmp 8), type := 22, pos := "more.go:26", after := #[], guard := none }) (v := (.float .f64 Y)) rfl (by kernel_rfl) (by kernel_rfl) (by kernel_rfl) (fun _ _ _ h => h) (Or.inl ⟨by rfl, ?_⟩) hHeld ?_
        · intro w' hSw; (try dsimp only at hSw); go_simp
        simp only [Act.put, List.setIfInBounds_toArray, List.set_cons_zero, List.set_cons_succ]
        refine wpAnyH_ready (rs := [1]) (by kernel_rfl) (by simp) ?_
        refine AllReadyH.cons (o := { dst := some 48, op := Op.call { callee := Callee.value (Operand.func 15), args := #[Operand.tmp 47], argTypes := #[22] }, type := 24, pos := "more.go:26", after := #[{ on := 0, ground := Ground.data }], guard := none }) rfl (fun K hK => ?_) AllReadyH.nil
        go_simp
        refine (l_float _ _).mono ?_
        rintro e w' ⟨rfl, hw⟩
        have hT := touch_of_alloc hw
        have hS2 := boxes2_keep hHeld hT; have HW5 : Hid (Wr w' P5 BY) := HW5.out.keep hT (fun _ _ => id); have HW6 : Hid (Wr w' P6 BY) := HW6.out.keep hT (fun _ _ => id)
        clear hw hT
        refine hK.out _ _ hS2 (fun hHeld => ?_)
        clear hK K
        try dsimp only
        refine wpAnyH_ready (rs := [3]) (by kernel_rfl) (by simp) ?_
        refine AllReadyH.cons (o := { dst := some 50, op := Op.call { callee := Callee.value (Operand.func 15), args := #[Operand.tmp 49], argTypes := #[22] }, type := 24, pos := "more.go:26", after := #[{ on := 2, ground := Ground.data }, { on := 1, ground := Ground.chain }], guard := none }) rfl (fun K hK => ?_) AllReadyH.nil
        go_simp
        refine (l_float _ _).mono ?_
        rintro e w' ⟨rfl, hw⟩
        have hT := touch_of_alloc hw
        have hS2 := boxes2_keep hHeld hT; have HW5 : Hid (Wr w' P5 BY) := HW5.out.keep hT (fun _ _ => id); have HW6 : Hid (Wr w' P6 BY) := HW6.out.keep hT (fun _ _ => id)
        clear hw hT
        refine hK.out _ _ hS2 (fun hHeld => ?_)
        clear hK K
        try dsimp only
        refine wpAnyH_ready (rs := [4]) (by kernel_rfl) (by simp) ?_
        refine AllReadyH.cons (o := { dst := some 51, op := Op.call { callee := Callee.value (Operand.func 16), args := #[Operand.tmp 48, Operand.tmp 50], argTypes := #[24, 24] }, type := 4, pos := "more.go:26", after := #[{ on := 1, ground := Ground.data }, { on := 3, ground := Ground.data }, { on := 3, ground := Ground.chain }], guard := none }) rfl (fun K hK => ?_) AllReadyH.nil
        go_simp
        refine (HSm.out _).mono ?_
        rintro e w' ⟨rfl, hT⟩
        have hS2 := boxes2_keep hHeld hT; have HW5 : Hid (Wr w' P5 BY) := HW5.out.keep hT (fun _ _ => id); have HW6 : Hid (Wr w' P6 BY) := HW6.out.keep hT (fun _ _ => id)
        clear hT
        refine hK.out _ _ hS2 (fun hHeld => ?_)
        clear hK K
        try dsimp only
        refine wpAnyH_take (i := 5) (oi := { dst := some 52, op := Op.move (Operand.tmp 51), type := 4, pos := "more.go:26", after := #[{ on := 4, ground := Ground.data }, { on := 4, ground := Ground.chain }], guard := none }) (v := (.bool true)) rfl (by kernel_rfl) (by kernel_rfl) (by kernel_rfl) (fun _ _ _ h => h) (Or.inl ⟨by rfl, ?_⟩) hHeld ?_
        · intro w' hSw; (try dsimp only at hSw); go_simp
        simp only [Act.put, List.setIfInBounds_toArray, List.set_cons_zero, List.set_cons_succ]
        refine wpAnyH_ready (rs := [6]) (by kernel_rfl) (by simp) ?_
        refine AllReadyH.cons (o := { dst := some 53, op := Op.call { callee := Callee.value (Operand.func 17), args := #[Operand.tmp 9], argTypes := #[36] }, type := 34, pos := "more.go:26", after := #[{ on := 5, ground := Ground.chain }, { on := 5, ground := Ground.guard }], guard := some (5, true) }) rfl (fun K hK => ?_) AllReadyH.nil
        go_simp
        refine (wbytes_any P5 BY _ HW5.out HLy.out).mono ?_
        rintro e w' ⟨v, rfl, hown, hT⟩
        obtain ⟨ao5, cap5, g5, rfl, hL, hX⟩ := lies_of_owned hown
        clear hX
        have hS2 := boxes2_keep hHeld hT; have HW5 : Hid (Wr w' P5 BY) := HW5.out.keep hT (fun _ _ => id); have HW6 : Hid (Wr w' P6 BY) := HW6.out.keep hT (fun _ _ => id)
        have HL5 : Hid (Lies w' g5 ao5 BY) := hL
        have hcv5 := lies_string hL BY.length cap5 rfl
        clear hT hown hL
        refine hK.out _ _ hS2 (fun hHeld => ?_)
        clear hK K
        try dsimp only
        refine wpAnyH_strong (S' := fun w' : World => (w'.cell? ⟨w.heap.size, 0, none⟩ = some (.int .i64 k) ∧ w'.cell? ⟨w.heap.size, 1, none⟩ = some (.int .i64 n) ∧ w'.cell? ⟨w.heap.size, 2, none⟩ = some (.float .f64 f) ∧ w'.cell? ⟨w.heap.size, 3, none⟩ = some (.string s) ∧ w'.cell? ⟨B, 0, none⟩ = some (.int .i64 0) ∧ w'.cell? ⟨B, 1, none⟩ = some (.int .i64 0) ∧ w'.cell? ⟨B, 2, none⟩ = some (.float .f64 F) ∧ w'.cell? ⟨B, 3, none⟩ = some (.string ⟨#[]⟩) ∧ Hid (Touch (fun _ => False) w w')) ∧ Hid (Lies w' g5 ao5 BY)) (fun w' h => h.1) _ _ _ _ ?_
        have hHeldL := And.intro hHeld HL5
        clear hHeld HL5 hcv5
        have hHeld := hHeldL
        clear hHeldL
        refine wpAnyH_take (i := 7) (oi := { dst := some 54, op := Op.convert 34 9 (Operand.tmp 53), type := 9, pos := "more.go:26", after := #[{ on := 6, ground := Ground.data }, { on := 5, ground := Ground.guard }], guard := some (5, true) }) (v := (.string ⟨BY.toArray⟩)) rfl (by kernel_rfl) (by kernel_rfl) (by kernel_rfl) (fun _ _ _ h => h) (Or.inl ⟨by rfl, ?_⟩) hHeld ?_
        · intro w' hSw; have hcv := lies_string hSw.2.out BY.length cap5 rfl; go_simp
        simp only [Act.put, List.setIfInBounds_toArray, List.set_cons_zero, List.set_cons_succ]
        refine wpAnyH_ready (rs := [8]) (by kernel_rfl) (by simp) ?_
        refine AllReadyH.cons (o := { dst := some 55, op := Op.call { callee := Callee.value (Operand.func 17), args := #[Operand.tmp 10], argTypes := #[36] }, type := 34, pos := "more.go:26", after := #[{ on := 6, ground := Ground.chain }, { on := 5, ground := Ground.guard }], guard := some (5, true) }) rfl (fun K hK => ?_) AllReadyH.nil
        go_simp
        refine (wbytes_any P6 BY _ HW6.out HLy.out).mono ?_
        rintro e w' ⟨v, rfl, hown, hT⟩
        obtain ⟨ao6, cap6, g6, rfl, hL, hX⟩ := lies_of_owned hown
        clear hX
        have hS2 := boxesL_keep hHeld hT; have HW5 : Hid (Wr w' P5 BY) := HW5.out.keep hT (fun _ _ => id); have HW6 : Hid (Wr w' P6 BY) := HW6.out.keep hT (fun _ _ => id)
        have hcv6 := lies_string hL BY.length cap6 rfl
        clear hT hown hL
        refine hK.out _ _ hS2 (fun hHeld => ?_)
        clear hK K
        try dsimp only
        refine wpAnyH_ready (rs := [9]) (by kernel_rfl) (by simp) ?_
        refine AllReadyH.cons (o := { dst := some 56, op := Op.convert 34 9 (Operand.tmp 55), type := 9, pos := "more.go:26", after := #[{ on := 8, ground := Ground.data }, { on := 5, ground := Ground.guard }], guard := some (5, true) }) rfl (fun K hK => ?_) AllReadyH.nil
        go_simp
        have hS2 := hHeld
        refine hK.out _ _ hS2 (fun hHeld => ?_)
        clear hK K
        try dsimp only
        refine wpAnyH_take (i := 10) (oi := { dst := some 57, op := Op.binOp BinOp.eql 9 (Operand.tmp 54) (Operand.tmp 56) 9, type := 4, pos := "more.go:26", after := #[{ on := 7, ground := Ground.data }, { on := 9, ground := Ground.data }, { on := 5, ground := Ground.guard }], guard := some (5, true) }) (v := (.bool true)) rfl (by kernel_rfl) (by kernel_rfl) (by kernel_rfl) (fun _ _ _ h => h) (Or.inl ⟨by rfl, ?_⟩) hHeld ?_
        · intro w' hSw; (try dsimp only at hSw); go_simp
        simp only [Act.put, List.setIfInBounds_toArray, List.set_cons_zero, List.set_cons_succ]
        refine wpAnyH_take (i := 11) (oi := { dst := some 58, op := Op.pick (Operand.tmp 52) (Operand.tmp 57) (Operand.const (Value.bool false)), type := 4, pos := "more.go:26", after := #[{ on := 5, ground := Ground.data }, { on := 10, ground := Ground.data }], guard := none }) (v := (.bool true)) rfl (by kernel_rfl) (by kernel_rfl) (by kernel_rfl) (fun _ _ _ h => h) (Or.inl ⟨by rfl, ?_⟩) hHeld ?_
        · intro w' hSw; (try dsimp only at hSw); go_simp
        simp only [Act.put, List.setIfInBounds_toArray, List.set_cons_zero, List.set_cons_succ]
        refine wpAnyH_take (i := 12) (oi := { dst := some 59, op := Op.move (Operand.tmp 58), type := 4, pos := "more.go:26", after := #[{ on := 11, ground := Ground.data }, { on := 8, ground := Ground.chain }], guard := none }) (v := (.bool true)) rfl (by kernel_rfl) (by kernel_rfl) (by kernel_rfl) (fun _ _ _ h => h) (Or.inl ⟨by rfl, ?_⟩) hHeld ?_
        · intro w' hSw; (try dsimp only at hSw); go_simp
        simp only [Act.put, List.setIfInBounds_toArray, List.set_cons_zero, List.set_cons_succ]
        refine wpAnyH_take (i := 13) (oi := { dst := some 60, op := Op.move (Operand.tmp 7), type := 22, pos := "more.go:26", after := #[{ on := 12, ground := Ground.guard }], guard := some (12, true) }) (v := (.float .f64 X)) rfl (by kernel_rfl) (by kernel_rfl) (by kernel_rfl) (fun _ _ _ h => h) (Or.inl ⟨by rfl, ?_⟩) hHeld ?_
        · intro w' hSw; (try dsimp only at hSw); go_simp
        simp only [Act.put, List.setIfInBounds_toArray, List.set_cons_zero, List.set_cons_succ]
        refine wpAnyH_ready (rs := [14]) (by kernel_rfl) (by simp) ?_
        refine AllReadyH.cons (o := { dst := some 61, op := Op.call { callee := Callee.value (Operand.func 15), args := #[Operand.tmp 60], argTypes := #[22] }, type := 24, pos := "more.go:26", after := #[{ on := 13, ground := Ground.data }, { on := 12, ground := Ground.chain }, { on := 12, ground := Ground.guard }], guard := some (12, true) }) rfl (fun K hK => ?_) AllReadyH.nil
        go_simp
        refine (l_float _ _).mono ?_
        rintro e w' ⟨rfl, hw⟩
        have hT := touch_of_alloc hw
        have hS2 := boxesL_keep hHeld hT; have HW5 : Hid (Wr w' P5 BY) := HW5.out.keep hT (fun _ _ => id); have HW6 : Hid (Wr w' P6 BY) := HW6.out.keep hT (fun _ _ => id)
        clear hw hT
        refine hK.out _ _ hS2 (fun hHeld => ?_)
        clear hK K
        try dsimp only
        refine wpAnyH_ready (rs := [15]) (by kernel_rfl) (by simp) ?_
        refine AllReadyH.cons (o := { dst := some 62, op := Op.call { callee := Callee.value (Operand.func 18), args := #[Operand.tmp 61], argTypes := #[24] }, type := 9, pos := "more.go:26", after := #[{ on := 14, ground := Ground.data }, { on := 14, ground := Ground.chain }, { on := 12, ground := Ground.guard }], guard := some (12, true) }) rfl (fun K hK => ?_) AllReadyH.nil
        go_simp
        refine (HTx.out _).mono ?_
        rintro e w' ⟨rfl, hT⟩
        have hS2 := boxesL_keep hHeld hT; have HW5 : Hid (Wr w' P5 BY) := HW5.out.keep hT (fun _ _ => id); have HW6 : Hid (Wr w' P6 BY) := HW6.out.keep hT (fun _ _ => id)
        clear hT
        refine hK.out _ _ hS2 (fun hHeld => ?_)
        clear hK K
        try dsimp only
        refine wpAnyH_take (i := 16) (oi := { dst := some 63, op := Op.binOp BinOp.eql 9 (Operand.tmp 62) (Operand.const (Value.string { data := #[102, 55, 102, 102, 56, 48, 48, 48, 48, 48, 48, 48, 48, 48, 48, 48, 48] })) 9, type := 4, pos := "more.go:26", after := #[{ on := 15, ground := Ground.data }, { on := 12, ground := Ground.guard }], guard := some (12, true) }) (v := (.bool true)) rfl (by kernel_rfl) (by kernel_rfl) (by kernel_rfl) (fun _ _ _ h => h) (Or.inl ⟨by rfl, ?_⟩) hHeld ?_
        · intro w' hSw; (try dsimp only at hSw); go_simp
        simp only [Act.put, List.setIfInBounds_toArray, List.set_cons_zero, List.set_cons_succ]
        refine wpAnyH_take (i := 17) (oi := { dst := some 64, op := Op.pick (Operand.tmp 59) (Operand.tmp 63) (Operand.const (Value.bool false)), type := 4, pos := "more.go:26", after := #[{ on := 12, ground := Ground.data }, { on := 16, ground := Ground.data }], guard := none }) (v := (.bool true)) rfl (by kernel_rfl) (by kernel_rfl) (by kernel_rfl) (fun _ _ _ h => h) (Or.inl ⟨by rfl, ?_⟩) hHeld ?_
        · intro w' hSw; (try dsimp only at hSw); go_simp
        simp only [Act.put, List.setIfInBounds_toArray, List.set_cons_zero, List.set_cons_succ]
        refine wpAnyH_take (i := 18) (oi := { dst := some 65, op := Op.move (Operand.tmp 64), type := 4, pos := "more.go:26", after := #[{ on := 17, ground := Ground.data }, { on := 15, ground := Ground.chain }], guard := none }) (v := (.bool true)) rfl (by kernel_rfl) (by kernel_rfl) (by kernel_rfl) (fun _ _ _ h => h) (Or.inl ⟨by rfl, ?_⟩) hHeld ?_
        · intro w' hSw; (try dsimp only at hSw); go_simp
        simp only [Act.put, List.setIfInBounds_toArray, List.set_cons_zero, List.set_cons_succ]
        refine wpAnyH_take (i := 19) (oi := { dst := some 66, op := Op.move (Operand.tmp 8), type := 22, pos := "more.go:26", after := #[{ on := 18, ground := Ground.guard }], guard := some (18, true) }) (v := (.float .f64 Y)) rfl (by kernel_rfl) (by kernel_rfl) (by kernel_rfl) (fun _ _ _ h => h) (Or.inl ⟨by rfl, ?_⟩) hHeld ?_
        · intro w' hSw; (try dsimp only at hSw); go_simp
        simp only [Act.put, List.setIfInBounds_toArray, List.set_cons_zero, List.set_cons_succ]
        refine wpAnyH_take (i := 22) (oi := { dst := some 69, op := Op.move (Operand.tmp 7), type := 22, pos := "more.go:26", after := #[{ on := 18, ground := Ground.guard }], guard := some (18, true) }) (v := (.float .f64 X)) rfl (by kernel_rfl) (by kernel_rfl) (by kernel_rfl) (fun _ _ _ h => h) (Or.inl ⟨by rfl, ?_⟩) hHeld ?_
        · intro w' hSw; (try dsimp only at hSw); go_simp
        simp only [Act.put, List.setIfInBounds_toArray, List.set_cons_zero, List.set_cons_succ]
        refine wpAnyH_ready (rs := [20]) (by kernel_rfl) (by simp) ?_
        refine AllReadyH.cons (o := { dst := some 67, op := Op.call { callee := Callee.value (Operand.func 15), args := #[Operand.tmp 66], argTypes := #[22] }, type := 24, pos := "more.go:26", after := #[{ on := 19, ground := Ground.data }, { on := 18, ground := Ground.chain }, { on := 18, ground := Ground.guard }], guard := some (18, true) }) rfl (fun K hK => ?_) AllReadyH.nil
        go_simp
        refine (l_float _ _).mono ?_
        rintro e w' ⟨rfl, hw⟩
        have hT := touch_of_alloc hw
        have hS2 := boxesL_keep hHeld hT; have HW5 : Hid (Wr w' P5 BY) := HW5.out.keep hT (fun _ _ => id); have HW6 : Hid (Wr w' P6 BY) := HW6.out.keep hT (fun _ _ => id)
        clear hw hT
        refine hK.out _ _ hS2 (fun hHeld => ?_)
        clear hK K
        try dsimp only
        refine wpAnyH_ready (rs := [21]) (by kernel_rfl) (by simp) ?_
        refine AllReadyH.cons (o := { dst := some 68, op := Op.call { callee := Callee.value (Operand.func 18), args := #[Operand.tmp 67], argTypes := #[24] }, type := 9, pos := "more.go:26", after := #[{ on := 20, ground := Ground.data }, { on := 20, ground := Ground.chain }, { on := 18, ground := Ground.guard }], guard := some (18, true) }) rfl (fun K hK => ?_) AllReadyH.nil
        go_simp
        refine (HTy.out _).mono ?_
        rintro e w' ⟨rfl, hT⟩
        have hS2 := boxesL_keep hHeld hT; have HW5 : Hid (Wr w' P5 BY) := HW5.out.keep hT (fun _ _ => id); have HW6 : Hid (Wr w' P6 BY) := HW6.out.keep hT (fun _ _ => id)
        clear hT
        refine hK.out _ _ hS2 (fun hHeld => ?_)
        clear hK K
        try dsimp only
        refine wpAnyH_ready (rs := [23]) (by kernel_rfl) (by simp) ?_
        refine AllReadyH.cons (o := { dst := some 70, op := Op.call { callee := Callee.value (Operand.func 15), args := #[Operand.tmp 69], argTypes := #[22] }, type := 24, pos := "more.go:26", after := #[{ on := 22, ground := Ground.data }, { on := 21, ground := Ground.chain }, { on := 18, ground := Ground.guard }], guard := some (18, true) }) rfl (fun K hK => ?_) AllReadyH.nil
        go_simp
        refine (l_float _ _).mono ?_
        rintro e w' ⟨rfl, hw⟩
        have hT := touch_of_alloc hw
        have hS2 := boxesL_keep hHeld hT; have HW5 : Hid (Wr w' P5 BY) := HW5.out.keep hT (fun _ _ => id); have HW6 : Hid (Wr w' P6 BY) := HW6.out.keep hT (fun _ _ => id)
        clear hw hT
        refine hK.out _ _ hS2 (fun hHeld => ?_)
        clear hK K
        try dsimp only
        refine wpAnyH_ready (rs := [24]) (by kernel_rfl) (by simp) ?_
        refine AllReadyH.cons (o := { dst := some 71, op := Op.call { callee := Callee.value (Operand.func 18), args := #[Operand.tmp 70], argTypes := #[24] }, type := 9, pos := "more.go:26", after := #[{ on := 23, ground := Ground.data }, { on := 23, ground := Ground.chain }, { on := 18, ground := Ground.guard }], guard := some (18, true) }) rfl (fun K hK => ?_) AllReadyH.nil
        go_simp
        refine (HTx.out _).mono ?_
        rintro e w' ⟨rfl, hT⟩
        have hS2 := boxesL_keep hHeld hT; have HW5 : Hid (Wr w' P5 BY) := HW5.out.keep hT (fun _ _ => id); have HW6 : Hid (Wr w' P6 BY) := HW6.out.keep hT (fun _ _ => id)
        clear hT
        refine hK.out _ _ hS2 (fun hHeld => ?_)
        clear hK K
        try dsimp only
        refine wpAnyH_take (i := 25) (oi := { dst := some 72, op := Op.binOp BinOp.eql 9 (Operand.tmp 68) (Operand.tmp 71) 9, type := 4, pos := "more.go:26", after := #[{ on := 21, ground := Ground.data }, { on := 24, ground := Ground.data }, { on := 18, ground := Ground.guard }], guard := some (18, true) }) (v := (.bool true)) rfl (by kernel_rfl) (by kernel_rfl) (by kernel_rfl) (fun _ _ _ h => h) (Or.inl ⟨by rfl, ?_⟩) hHeld ?_
        · intro w' hSw; (try dsimp only at hSw); go_simp
        simp only [Act.put, List.setIfInBounds_toArray, List.set_cons_zero, List.set_cons_succ]
        refine wpAnyH_take (i := 26) (oi := { dst := some 73, op := Op.pick (Operand.tmp 65) (Operand.tmp 72) (Operand.const (Value.bool false)), type := 4, pos := "more.go:26", after := #[{ on := 18, ground := Ground.data }, { on := 25, ground := Ground.data }], guard := none }) (v := (.bool true)) rfl (by kernel_rfl) (by kernel_rfl) (by kernel_rfl) (fun _ _ _ h => h) (Or.inl ⟨by rfl, ?_⟩) hHeld ?_
        · intro w' hSw; (try dsimp only at hSw); go_simp
        simp only [Act.put, List.setIfInBounds_toArray, List.set_cons_zero, List.set_cons_succ]
        refine wpAnyH_take (i := 27) (oi := { dst := some 74, op := Op.move (Operand.tmp 73), type := 4, pos := "more.go:26", after := #[{ on := 26, ground := Ground.data }, { on := 24, ground := Ground.chain }], guard := none }) (v := (.bool true)) rfl (by kernel_rfl) (by kernel_rfl) (by kernel_rfl) (fun _ _ _ h => h) (Or.inl ⟨by rfl, ?_⟩) hHeld ?_
        · intro w' hSw; (try dsimp only at hSw); go_simp
        simp only [Act.put, List.setIfInBounds_toArray, List.set_cons_zero, List.set_cons_succ]
        refine wpAnyH_take (i := 28) (oi := { dst := some 75, op := Op.move (Operand.tmp 7), type := 22, pos := "more.go:26", after := #[{ on := 27, ground := Ground.guard }], guard := some (27, true) }) (v := (.float .f64 X)) rfl (by kernel_rfl) (by kernel_rfl) (by kernel_rfl) (fun _ _ _ h => h) (Or.inl ⟨by rfl, ?_⟩) hHeld ?_
        · intro w' hSw; (try dsimp only at hSw); go_simp
        simp only [Act.put, List.setIfInBounds_toArray, List.set_cons_zero, List.set_cons_succ]
        refine wpAnyH_take (i := 30) (oi := { dst := some 77, op := Op.load 24 (Operand.tmp 5), type := 24, pos := "more.go:26", after := #[{ on := 27, ground := Ground.guard }], guard := some (27, true) }) (v := (.agg #[.int .i64 k, .int .i64 n, .float .f64 f, .string s])) rfl (by kernel_rfl) (by kernel_rfl) (by kernel_rfl) (fun _ _ _ h => h) (Or.inl ⟨by rfl, ?_⟩) hHeld ?_
        · intro w' hSw; (try dsimp only at hSw); go_simp
        simp only [Act.put, List.setIfInBounds_toArray, List.set_cons_zero, List.set_cons_succ]
        refine wpAnyH_take (i := 32) (oi := { dst := some 79, op := Op.move (Operand.tmp 8), type := 22, pos := "more.go:26", after := #[{ on := 27, ground := Ground.guard }], guard := some (27, true) }) (v := (.float .f64 Y)) rfl (by kernel_rfl) (by kernel_rfl) (by kernel_rfl) (fun _ _ _ h => h) (Or.inl ⟨by rfl, ?_⟩) hHeld ?_
        · intro w' hSw; (try dsimp only at hSw); go_simp
        simp only [Act.put, List.setIfInBounds_toArray, List.set_cons_zero, List.set_cons_succ]
        refine wpAnyH_take (i := 34) (oi := { dst := some 81, op := Op.load 24 (Operand.tmp 5), type := 24, pos := "more.go:26", after := #[{ on := 27, ground := Ground.guard }], guard := some (27, true) }) (v := (.agg #[.int .i64 k, .int .i64 n, .float .f64 f, .string s])) rfl (by kernel_rfl) (by kernel_rfl) (by kernel_rfl) (fun _ _ _ h => h) (Or.inl ⟨by rfl, ?_⟩) hHeld ?_
        · intro w' hSw; (try dsimp only at hSw); go_simp
        simp only [Act.put, List.setIfInBounds_toArray, List.set_cons_zero, List.set_cons_succ]
        refine wpAnyH_ready (rs := [29]) (by kernel_rfl) (by simp) ?_
        refine AllReadyH.cons (o := { dst := some 76, op := Op.call { callee := Callee.value (Operand.func 15), args := #[Operand.tmp 75], argTypes := #[22] }, type := 24, pos := "more.go:26", after := #[{ on := 28, ground := Ground.data }, { on := 27, ground := Ground.chain }, { on := 27, ground := Ground.guard }], guard := some (27, true) }) rfl (fun K hK => ?_) AllReadyH.nil
        go_simp
        refine (l_float _ _).mono ?_
        rintro e w' ⟨rfl, hw⟩
        have hT := touch_of_alloc hw
        have hS2 := boxesL_keep hHeld hT; have HW5 : Hid (Wr w' P5 BY) := HW5.out.keep hT (fun _ _ => id); have HW6 : Hid (Wr w' P6 BY) := HW6.out.keep hT (fun _ _ => id)
        clear hw hT
        refine hK.out _ _ hS2 (fun hHeld => ?_)
        clear hK K
        try dsimp only
        refine wpAnyH_ready (rs := [31]) (by kernel_rfl) (by simp) ?_
        refine AllReadyH.cons (o := { dst := some 78, op := Op.call { callee := Callee.value (Operand.func 19), args := #[Operand.tmp 76, Operand.tmp 77], argTypes := #[24, 24] }, type := 3, pos := "more.go:26", after := #[{ on := 29, ground := Ground.data }, { on := 30, ground := Ground.data }, { on := 29, ground := Ground.chain }, { on := 27, ground := Ground.guard }], guard := some (27, true) }) rfl (fun K hK => ?_) AllReadyH.nil
        go_simp
        refine (HCx.out _).mono ?_
        rintro e w' ⟨rfl, hT⟩
        have hS2 := boxesL_keep hHeld hT; have HW5 : Hid (Wr w' P5 BY) := HW5.out.keep hT (fun _ _ => id); have HW6 : Hid (Wr w' P6 BY) := HW6.out.keep hT (fun _ _ => id)
        clear hT
        refine hK.out _ _ hS2 (fun hHeld => ?_)
        clear hK K
        try dsimp only
        refine wpAnyH_ready (rs := [33]) (by kernel_rfl) (by simp) ?_
        refine AllReadyH.cons (o := { dst := some 80, op := Op.call { callee := Callee.value (Operand.func 15), args := #[Operand.tmp 79], argTypes := #[22] }, type := 24, pos := "more.go:26", after := #[{ on := 32, ground := Ground.data }, { on := 31, ground := Ground.chain }, { on := 27, ground := Ground.guard }], guard := some (27, true) }) rfl (fun K hK => ?_) AllReadyH.nil
        go_simp
        refine (l_float _ _).mono ?_
        rintro e w' ⟨rfl, hw⟩
        have hT := touch_of_alloc hw
        have hS2 := boxesL_keep hHeld hT; have HW5 : Hid (Wr w' P5 BY) := HW5.out.keep hT (fun _ _ => id); have HW6 : Hid (Wr w' P6 BY) := HW6.out.keep hT (fun _ _ => id)
        clear hw hT
        refine hK.out _ _ hS2 (fun hHeld => ?_)
        clear hK K
        try dsimp only
        refine wpAnyH_ready (rs := [35]) (by kernel_rfl) (by simp) ?_
        refine AllReadyH.cons (o := { dst := some 82, op := Op.call { callee := Callee.value (Operand.func 19), args := #[Operand.tmp 80, Operand.tmp 81], argTypes := #[24, 24] }, type := 3, pos := "more.go:26", after := #[{ on := 33, ground := Ground.data }, { on := 34, ground := Ground.data }, { on := 33, ground := Ground.chain }, { on := 27, ground := Ground.guard }], guard := some (27, true) }) rfl (fun K hK => ?_) AllReadyH.nil
        go_simp
        refine (HCy.out _).mono ?_
        rintro e w' ⟨rfl, hT⟩
        have hS2 := boxesL_keep hHeld hT; have HW5 : Hid (Wr w' P5 BY) := HW5.out.keep hT (fun _ _ => id); have HW6 : Hid (Wr w' P6 BY) := HW6.out.keep hT (fun _ _ => id)
        clear hT
        refine hK.out _ _ hS2 (fun hHeld => ?_)
        clear hK K
        try dsimp only
        refine wpAnyH_take (i := 36) (oi := { dst := some 83, op := Op.binOp BinOp.eql 3 (Operand.tmp 78) (Operand.tmp 82) 3, type := 4, pos := "more.go:26", after := #[{ on := 31, ground := Ground.data }, { on := 35, ground := Ground.data }, { on := 27, ground := Ground.guard }], guard := some (27, true) }) (v := (.bool true)) rfl (by kernel_rfl) (by kernel_rfl) (by kernel_rfl) (fun _ _ _ h => h) (Or.inl ⟨by rfl, ?_⟩) hHeld ?_
        · intro w' hSw; (try dsimp only at hSw); go_simp
        simp only [Act.put, List.setIfInBounds_toArray, List.set_cons_zero, List.set_cons_succ]
        refine wpAnyH_take (i := 37) (oi := { dst := some 84, op := Op.pick (Operand.tmp 74) (Operand.tmp 83) (Operand.const (Value.bool false)), type := 4, pos := "more.go:26", after := #[{ on := 27, ground := Ground.data }, { on := 36, ground := Ground.data }], guard := none }) (v := (.bool true)) rfl (by kernel_rfl) (by kernel_rfl) (by kernel_rfl) (fun _ _ _ h => h) (Or.inl ⟨by rfl, ?_⟩) hHeld ?_
        · intro w' hSw; (try dsimp only at hSw); go_simp
        simp only [Act.put, List.setIfInBounds_toArray, List.set_cons_zero, List.set_cons_succ]
        refine wpAnyH_take (i := 38) (oi := { dst := some 85, op := Op.move (Operand.tmp 84), type := 4, pos := "more.go:26", after := #[{ on := 37, ground := Ground.data }, { on := 35, ground := Ground.chain }], guard := none }) (v := (.bool true)) rfl (by kernel_rfl) (by kernel_rfl) (by kernel_rfl) (fun _ _ _ h => h) (Or.inl ⟨by rfl, ?_⟩) hHeld ?_
        · intro w' hSw; (try dsimp only at hSw); go_simp
        simp only [Act.put, List.setIfInBounds_toArray, List.set_cons_zero, List.set_cons_succ]
        refine wpAnyH_take (i := 39) (oi := { dst := some 86, op := Op.move (Operand.tmp 12), type := 4, pos := "more.go:26", after := #[{ on := 38, ground := Ground.guard }], guard := some (38, true) }) (v := (.bool false)) rfl (by kernel_rfl) (by kernel_rfl) (by kernel_rfl) (fun _ _ _ h => h) (Or.inl ⟨by rfl, ?_⟩) hHeld ?_
        · intro w' hSw; (try dsimp only at hSw); go_simp
        simp only [Act.put, List.setIfInBounds_toArray, List.set_cons_zero, List.set_cons_succ]
        refine wpAnyH_take (i := 40) (oi := { dst := some 87, op := Op.fieldAddr 24 (Operand.tmp 11) 0, type := 0, pos := "more.go:26", after := #[{ on := 38, ground := Ground.guard }], guard := some (38, true) }) (v := (.pointer (some ⟨B, 0, none⟩))) rfl (by kernel_rfl) (by kernel_rfl) (by kernel_rfl) (fun _ _ _ h => h) (Or.inl ⟨by rfl, ?_⟩) hHeld ?_
        · intro w' hSw; (try dsimp only at hSw); go_simp
        simp only [Act.put, List.setIfInBounds_toArray, List.set_cons_zero, List.set_cons_succ]
        refine wpAnyH_take (i := 41) (oi := { dst := some 88, op := Op.load 3 (Operand.tmp 87), type := 3, pos := "more.go:26", after := #[{ on := 40, ground := Ground.data }, { on := 38, ground := Ground.guard }], guard := some (38, true) }) (v := (.int .i64 0)) rfl (by kernel_rfl) (by kernel_rfl) (by kernel_rfl) (fun _ _ _ h => h) (Or.inl ⟨by rfl, ?_⟩) hHeld ?_
        · intro w' hSw; (try dsimp only at hSw); go_simp
        simp only [Act.put, List.setIfInBounds_toArray, List.set_cons_zero, List.set_cons_succ]
        refine wpAnyH_take (i := 42) (oi := { dst := some 89, op := Op.binOp BinOp.eql 3 (Operand.tmp 88) (Operand.const (Value.int IntKind.i64 3)) 3, type := 4, pos := "more.go:26", after := #[{ on := 41, ground := Ground.data }, { on := 38, ground := Ground.guard }], guard := some (38, true) }) (v := (.bool false)) rfl (by kernel_rfl) (by kernel_rfl) (by kernel_rfl) (fun _ _ _ h => h) (Or.inl ⟨by rfl, ?_⟩) hHeld ?_
        · intro w' hSw; (try dsimp only at hSw); go_simp
        simp only [Act.put, List.setIfInBounds_toArray, List.set_cons_zero, List.set_cons_succ]
        refine wpAnyH_take (i := 43) (oi := { dst := some 90, op := Op.binOp BinOp.eql 4 (Operand.tmp 86) (Operand.tmp 89) 4, type := 4, pos := "more.go:26", after := #[{ on := 39, ground := Ground.data }, { on := 42, ground := Ground.data }, { on := 38, ground := Ground.guard }], guard := some (38, true) }) (v := (.bool true)) rfl (by kernel_rfl) (by kernel_rfl) (by kernel_rfl) (fun _ _ _ h => h) (Or.inl ⟨by rfl, ?_⟩) hHeld ?_
        · intro w' hSw; (try dsimp only at hSw); go_simp
        simp only [Act.put, List.setIfInBounds_toArray, List.set_cons_zero, List.set_cons_succ]
        refine wpAnyH_take (i := 44) (oi := { dst := some 91, op := Op.pick (Operand.tmp 85) (Operand.tmp 90) (Operand.const (Value.bool false)), type := 4, pos := "more.go:26", after := #[{ on := 38, ground := Ground.data }, { on := 43, ground := Ground.data }], guard := none }) (v := (.bool true)) rfl (by kernel_rfl) (by kernel_rfl) (by kernel_rfl) (fun _ _ _ h => h) (Or.inl ⟨by rfl, ?_⟩) hHeld ?_
        · intro w' hSw; (try dsimp only at hSw); go_simp
        simp only [Act.put, List.setIfInBounds_toArray, List.set_cons_zero, List.set_cons_succ]
        refine wpAnyH_take (i := 45) (oi := { dst := some 92, op := Op.move (Operand.tmp 91), type := 4, pos := "more.go:26", after := #[{ on := 44, ground := Ground.data }, { on := 38, ground := Ground.chain }], guard := none }) (v := (.bool true)) rfl (by kernel_rfl) (by kernel_rfl) (by kernel_rfl) (fun _ _ _ h => h) (Or.inl ⟨by rfl, ?_⟩) hHeld ?_
        · intro w' hSw; (try dsimp only at hSw); go_simp
        simp only [Act.put, List.setIfInBounds_toArray, List.set_cons_zero, List.set_cons_succ]
        refine wpAnyH_take (i := 46) (oi := { dst := some 93, op := Op.move (Operand.tmp 12), type := 4, pos := "more.go:26", after := #[{ on := 45, ground := Ground.guard }], guard := some (45, true) }) (v := (.bool false)) rfl (by kernel_rfl) (by kernel_rfl) (by kernel_rfl) (fun _ _ _ h => h) (Or.inl ⟨by rfl, ?_⟩) hHeld ?_
        · intro w' hSw; (try dsimp only at hSw); go_simp
        simp only [Act.put, List.setIfInBounds_toArray, List.set_cons_zero, List.set_cons_succ]
        refine wpAnyH_take (i := 47) (oi := { dst := some 94, op := Op.unOp UnOp.not 4 (Operand.tmp 93), type := 4, pos := "more.go:26", after := #[{ on := 46, ground := Ground.data }, { on := 45, ground := Ground.guard }], guard := some (45, true) }) (v := (.bool true)) rfl (by kernel_rfl) (by kernel_rfl) (by kernel_rfl) (fun _ _ _ h => h) (Or.inl ⟨by rfl, ?_⟩) hHeld ?_
        · intro w' hSw; (try dsimp only at hSw); go_simp
        simp only [Act.put, List.setIfInBounds_toArray, List.set_cons_zero, List.set_cons_succ]
        refine wpAnyH_take (i := 48) (oi := { dst := some 95, op := Op.move (Operand.tmp 94), type := 4, pos := "more.go:26", after := #[{ on := 47, ground := Ground.data }, { on := 45, ground := Ground.chain }, { on := 45, ground := Ground.guard }], guard := some (45, true) }) (v := (.bool true)) rfl (by kernel_rfl) (by kernel_rfl) (by kernel_rfl) (fun _ _ _ h => h) (Or.inl ⟨by rfl, ?_⟩) hHeld ?_
        · intro w' hSw; (try dsimp only at hSw); go_simp
        simp only [Act.put, List.setIfInBounds_toArray, List.set_cons_zero, List.set_cons_succ]
        refine wpAnyH_take (i := 49) (oi := { dst := some 96, op := Op.fieldAddr 24 (Operand.tmp 11) 2, type := 0, pos := "more.go:26", after := #[{ on := 48, ground := Ground.guard }], guard := some (48, false) }) (v := undef) rfl (by kernel_rfl) (by kernel_rfl) (by kernel_rfl) (fun _ _ _ h => h) (Or.inr ⟨by rfl, rfl⟩) hHeld ?_
        simp only [Act.put, List.setIfInBounds_toArray, List.set_cons_zero, List.set_cons_succ]
        refine wpAnyH_take (i := 50) (oi := { dst := some 97, op := Op.load 22 (Operand.tmp 96), type := 22, pos := "more.go:26", after := #[{ on := 49, ground := Ground.data }, { on := 48, ground := Ground.guard }], guard := some (48, false) }) (v := undef) rfl (by kernel_rfl) (by kernel_rfl) (by kernel_rfl) (fun _ _ _ h => h) (Or.inr ⟨by rfl, rfl⟩) hHeld ?_
        simp only [Act.put, List.setIfInBounds_toArray, List.set_cons_zero, List.set_cons_succ]
        refine wpAnyH_take (i := 51) (oi := { dst := some 98, op := Op.call { callee := Callee.value (Operand.func 20), args := #[Operand.tmp 97], argTypes := #[22] }, type := 31, pos := "more.go:26", after := #[{ on := 50, ground := Ground.data }, { on := 48, ground := Ground.chain }, { on := 48, ground := Ground.guard }], guard := some (48, false) }) (v := undef) rfl (by kernel_rfl) (by kernel_rfl) (by kernel_rfl) (fun _ _ _ h => h) (Or.inr ⟨by rfl, rfl⟩) hHeld ?_
        simp only [Act.put, List.setIfInBounds_toArray, List.set_cons_zero, List.set_cons_succ]
        refine wpAnyH_take (i := 52) (oi := { dst := some 99, op := Op.binOp BinOp.eql 31 (Operand.tmp 98) (Operand.const (Value.int IntKind.u64 9221120237041090560)) 31, type := 4, pos := "more.go:26", after := #[{ on := 51, ground := Ground.data }, { on := 48, ground := Ground.guard }], guard := some (48, false) }) (v := undef) rfl (by kernel_rfl) (by kernel_rfl) (by kernel_rfl) (fun _ _ _ h => h) (Or.inr ⟨by rfl, rfl⟩) hHeld ?_
        simp only [Act.put, List.setIfInBounds_toArray, List.set_cons_zero, List.set_cons_succ]
        refine wpAnyH_take (i := 53) (oi := { dst := some 100, op := Op.pick (Operand.tmp 95) (Operand.const (Value.bool true)) (Operand.tmp 99), type := 4, pos := "more.go:26", after := #[{ on := 48, ground := Ground.data }, { on := 52, ground := Ground.data }, { on := 45, ground := Ground.guard }], guard := some (45, true) }) (v := (.bool true)) rfl (by kernel_rfl) (by kernel_rfl) (by kernel_rfl) (fun _ _ _ h => h) (Or.inl ⟨by rfl, ?_⟩) hHeld ?_
        · intro w' hSw; (try dsimp only at hSw); go_simp
        simp only [Act.put, List.setIfInBounds_toArray, List.set_cons_zero, List.set_cons_succ]
        refine wpAnyH_take (i := 54) (oi := { dst := some 101, op := Op.pick (Operand.tmp 92) (Operand.tmp 100) (Operand.const (Value.bool false)), type := 4, pos := "more.go:26", after := #[{ on := 45, ground := Ground.data }, { on := 53, ground := Ground.data }], guard := none }) (v := (.bool true)) rfl (by kernel_rfl) (by kernel_rfl) (by kernel_rfl) (fun _ _ _ h => h) (Or.inl ⟨by rfl, ?_⟩) hHeld ?_
        · intro w' hSw; (try dsimp only at hSw); go_simp
        simp only [Act.put, List.setIfInBounds_toArray, List.set_cons_zero, List.set_cons_succ]
        refine wpAnyH_take (i := 55) (oi := { dst := some 6, op := Op.assign (Operand.tmp 101), type := 4, pos := "more.go:26", after := #[{ on := 54, ground := Ground.data }, { on := 51, ground := Ground.chain }, { on := 0, ground := Ground.phase }, { on := 1, ground := Ground.phase }, { on := 2, ground := Ground.phase }, { on := 3, ground := Ground.phase }, { on := 4, ground := Ground.phase }, { on := 5, ground := Ground.phase }, { on := 6, ground := Ground.phase }, { on := 7, ground := Ground.phase }, { on := 8, ground := Ground.phase }, { on := 9, ground := Ground.phase }, { on := 10, ground := Ground.phase }, { on := 11, ground := Ground.phase }, { on := 12, ground := Ground.phase }, { on := 13, ground := Ground.phase }, { on := 14, ground := Ground.phase }, { on := 15, ground := Ground.phase }, { on := 16, ground := Ground.phase }, { on := 17, ground := Ground.phase }, { on := 18, ground := Ground.phase }, { on := 19, ground := Ground.phase }, { on := 20, ground := Ground.phase }, { on := 21, ground := Ground.phase }, { on := 22, ground := Ground.phase }, { on := 23, ground := Ground.phase }, { on := 24, ground := Ground.phase }, { on := 25, ground := Ground.phase }, { on := 26, ground := Ground.phase }, { on := 27, ground := Ground.phase }, { on := 28, ground := Ground.phase }, { on := 29, ground := Ground.phase }, { on := 30, ground := Ground.phase }, { on := 31, ground := Ground.phase }, { on := 32, ground := Ground.phase }, { on := 33, ground := Ground.phase }, { on := 34, ground := Ground.phase }, { on := 35, ground := Ground.phase }, { on := 36, ground := Ground.phase }, { on := 37, ground := Ground.phase }, { on := 38, ground := Ground.phase }, { on := 39, ground := Ground.phase }, { on := 40, ground := Ground.phase }, { on := 41, ground := Ground.phase }, { on := 42, ground := Ground.phase }, { on := 43, ground := Ground.phase }, { on := 44, ground := Ground.phase }, { on := 45, ground := Ground.phase }, { on := 46, ground := Ground.phase }, { on := 47, ground := Ground.phase }, { on := 48, ground := Ground.phase }, { on := 49, ground := Ground.phase }, { on := 50, ground := Ground.phase }, { on := 51, ground := Ground.phase }, { on := 52, ground := Ground.phase }, { on := 53, ground := Ground.phase }, { on := 54, ground := Ground.phase }], guard := none }) (v := (.bool true)) rfl (by kernel_rfl) (by kernel_rfl) (by kernel_rfl) (fun _ _ _ h => h) (Or.inl ⟨by rfl, ?_⟩) hHeld ?_
        · intro w' hSw; (try dsimp only at hSw); go_simp
        simp only [Act.put, List.setIfInBounds_toArray, List.set_cons_zero, List.set_cons_succ]
        refine wpAnyH_done (by kernel_rfl) ?_ _
        have HT5 : Hid (Touch (fun _ => False) w _) := hHeld.1.2.2.2.2.2.2.2.2
        clear hHeld
        first | refine NoPanic.normal ?_ | skip
        go_wp2_with fail
        go_ret
        exact ⟨rfl, HT5.out⟩
end Go.Proofs.YtninglbenondpaaDoor

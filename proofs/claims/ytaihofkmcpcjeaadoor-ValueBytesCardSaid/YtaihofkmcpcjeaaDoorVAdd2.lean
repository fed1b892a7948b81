/- The contract of value.Add. -/
import Derived.Test.YtaihofkmcpcjeaaDoorPart4
namespace Go.Proofs.YtaihofkmcpcjeaaDoor
open Go.RowKit
set_option linter.unusedVariables false
set_option maxRecDepth 100000

theorem v_oneNaN_sum (r : Nat) (w : World) : Calls Tryd.prog 37 #[.float .f64 r] w fun e w' => e = .returned (.float .f64 (refBits r)) ∧ w' = w := v_oneNaN r w

set_option maxHeartbeats 2000000 in
theorem v_add (a b : V) (w : World) : Calls Tryd.prog 35 #[a.val, b.val] w fun e w' => e = .returned (refAdd a b).val ∧ Touch (fun _ => False) w w' := by
  obtain ⟨k, n, f, s⟩ := a
  obtain ⟨k2, n2, f2, s2⟩ := b
  have N1 : Hid (∀ w, Calls Tryd.prog 71 #[V.val ⟨k, n, f, s⟩] w fun e w' => e = .returned (.tuple #[.float .f64 (vNum ⟨k, n, f, s⟩), .bool (isNum ⟨k, n, f, s⟩)]) ∧ w' = w.alloc (.cells (V.cells ⟨k, n, f, s⟩) 24)) := v_asFloat _
  have N2 : Hid (∀ w, Calls Tryd.prog 71 #[V.val ⟨k2, n2, f2, s2⟩] w fun e w' => e = .returned (.tuple #[.float .f64 (vNum ⟨k2, n2, f2, s2⟩), .bool (isNum ⟨k2, n2, f2, s2⟩)]) ∧ w' = w.alloc (.cells (V.cells ⟨k2, n2, f2, s2⟩) 24)) := v_asFloat _
  have HA : Hid (refAdd ⟨k, n, f, s⟩ ⟨k2, n2, f2, s2⟩ = if isNum ⟨k, n, f, s⟩ && isNum ⟨k2, n2, f2, s2⟩ then (if k == 2 && k2 == 2 then ⟨2, wrap64 (n + n2), 0, ⟨#[]⟩⟩ else ⟨3, 0, sumBits (vNum ⟨k, n, f, s⟩) (vNum ⟨k2, n2, f2, s2⟩), ⟨#[]⟩⟩) else ⟨0, 0, 0, ⟨#[]⟩⟩) := by
    rw [Hid, refAdd, vNum, vNum]
    cases isNum ⟨k, n, f, s⟩ <;> cases isNum ⟨k2, n2, f2, s2⟩ <;> rfl
  have HK1 : Hid ((k == 2) = true → isNum ⟨k, n, f, s⟩ = true) := by intro h; simp only [isNum]; rw [h]; rfl
  have HK2 : Hid ((k2 == 2) = true → isNum ⟨k2, n2, f2, s2⟩ = true) := by intro h; simp only [isNum]; rw [h]; rfl
  simp only [V.val, V.cells] at *
  have h2 := run_store_f64 Tryd.prog
  have h3 := run_add_f64 Tryd.prog
  have hnot : ∀ (x : Bool) (w : World), (Op.unary .not (.bool x)).run Tryd.prog w = .ok (.bool (!x)) w := fun _ _ => rfl
  generalize refAdd ⟨k, n, f, s⟩ ⟨k2, n2, f2, s2⟩ = C at *
  generalize isNum ⟨k, n, f, s⟩ = m1 at *
  generalize isNum ⟨k2, n2, f2, s2⟩ = m2 at *
  generalize vNum ⟨k, n, f, s⟩ = x1 at *
  generalize vNum ⟨k2, n2, f2, s2⟩ = x2 at *
  cases t1 : (k == 2)
  · have HA2 : Hid (C = if m1 && m2 then ⟨3, 0, sumBits x1 x2, ⟨#[]⟩⟩ else ⟨0, 0, 0, ⟨#[]⟩⟩) := by rw [Hid, HA.out, t1]; rfl
    clear HA HK1 HK2
    cases m1
    · have HE : Hid (C = ⟨0, 0, 0, ⟨#[]⟩⟩) := HA2.out
      clear HA2
      go_enter Tryd.func35, Tryd.ntmps35
      go_wp2_with fail
      refine (N1.out _).mono ?_
      rintro e w1 ⟨rfl, rfl⟩
      go_wp2_with fail
      refine (N2.out _).mono ?_
      rintro e w1 ⟨rfl, rfl⟩
      go_wp2_with fail
      refine bodyPost_ret (v := .agg #[.int .i64 0, .int .i64 0, .float .f64 0, .string ⟨#[]⟩]) (by simp [results, Tryd.results35, go_sem]) rfl ⟨by rw [HE.out], ?_⟩
      repeat (with_reducible first | exact Touch.refl _ _ | refine Touch.alloc ?_ _ | refine Touch.drewN ?_ _ | refine Touch.setCell ?_ _ _ (fun h => by simp only at h; omega))
    · cases m2
      · have HE : Hid (C = ⟨0, 0, 0, ⟨#[]⟩⟩) := HA2.out
        clear HA2
        go_enter Tryd.func35, Tryd.ntmps35
        go_wp2_with fail
        refine (N1.out _).mono ?_
        rintro e w1 ⟨rfl, rfl⟩
        go_wp2_with fail
        refine (N2.out _).mono ?_
        rintro e w1 ⟨rfl, rfl⟩
        go_wp2_with fail
        refine bodyPost_ret (v := .agg #[.int .i64 0, .int .i64 0, .float .f64 0, .string ⟨#[]⟩]) (by simp [results, Tryd.results35, go_sem]) rfl ⟨by rw [HE.out], ?_⟩
        repeat (with_reducible first | exact Touch.refl _ _ | refine Touch.alloc ?_ _ | refine Touch.drewN ?_ _ | refine Touch.setCell ?_ _ _ (fun h => by simp only at h; omega))
      · have HE : Hid (C = ⟨3, 0, sumBits x1 x2, ⟨#[]⟩⟩) := HA2.out
        clear HA2
        go_enter Tryd.func35, Tryd.ntmps35
        go_wp2_with fail
        refine (N1.out _).mono ?_
        rintro e w1 ⟨rfl, rfl⟩
        go_wp2_with fail
        refine (N2.out _).mono ?_
        rintro e w1 ⟨rfl, rfl⟩
        go_wp2_with fail
        refine (v_oneNaN_sum _ _).mono ?_
        rintro e w1 ⟨rfl, rfl⟩
        simp only [addR_bits]
        generalize sumBits x1 x2 = g at *
        go_wp2_with fail
        refine bodyPost_ret (v := .agg #[.int .i64 3, .int .i64 0, .float .f64 g, .string ⟨#[]⟩]) (by simp [results, Tryd.results35, go_sem]) rfl ⟨by rw [HE.out], ?_⟩
        repeat (with_reducible first | exact Touch.refl _ _ | refine Touch.alloc ?_ _ | refine Touch.drewN ?_ _ | refine Touch.setCell ?_ _ _ (fun h => by simp only at h; omega))
  · have hm := HK1.out t1
    subst hm
    cases t2 : (k2 == 2)
    · have HA2 : Hid (C = if true && m2 then ⟨3, 0, sumBits x1 x2, ⟨#[]⟩⟩ else ⟨0, 0, 0, ⟨#[]⟩⟩) := by rw [Hid, HA.out, t1, t2]; rfl
      clear HA HK1 HK2
      cases m2
      · have HE : Hid (C = ⟨0, 0, 0, ⟨#[]⟩⟩) := HA2.out
        clear HA2
        go_enter Tryd.func35, Tryd.ntmps35
        go_wp2_with fail
        refine (N1.out _).mono ?_
        rintro e w1 ⟨rfl, rfl⟩
        go_wp2_with fail
        refine (N2.out _).mono ?_
        rintro e w1 ⟨rfl, rfl⟩
        go_wp2_with fail
        refine bodyPost_ret (v := .agg #[.int .i64 0, .int .i64 0, .float .f64 0, .string ⟨#[]⟩]) (by simp [results, Tryd.results35, go_sem]) rfl ⟨by rw [HE.out], ?_⟩
        repeat (with_reducible first | exact Touch.refl _ _ | refine Touch.alloc ?_ _ | refine Touch.drewN ?_ _ | refine Touch.setCell ?_ _ _ (fun h => by simp only at h; omega))
      · have HE : Hid (C = ⟨3, 0, sumBits x1 x2, ⟨#[]⟩⟩) := HA2.out
        clear HA2
        go_enter Tryd.func35, Tryd.ntmps35
        go_wp2_with fail
        refine (N1.out _).mono ?_
        rintro e w1 ⟨rfl, rfl⟩
        go_wp2_with fail
        refine (N2.out _).mono ?_
        rintro e w1 ⟨rfl, rfl⟩
        go_wp2_with fail
        refine (v_oneNaN_sum _ _).mono ?_
        rintro e w1 ⟨rfl, rfl⟩
        simp only [addR_bits]
        generalize sumBits x1 x2 = g at *
        go_wp2_with fail
        refine bodyPost_ret (v := .agg #[.int .i64 3, .int .i64 0, .float .f64 g, .string ⟨#[]⟩]) (by simp [results, Tryd.results35, go_sem]) rfl ⟨by rw [HE.out], ?_⟩
        repeat (with_reducible first | exact Touch.refl _ _ | refine Touch.alloc ?_ _ | refine Touch.drewN ?_ _ | refine Touch.setCell ?_ _ _ (fun h => by simp only at h; omega))
    · have HE : Hid (C = ⟨2, wrap64 (n + n2), 0, ⟨#[]⟩⟩) := by rw [Hid, HA.out, HK2.out t2, t1, t2]; rfl
      clear HA HK1 HK2
      go_enter Tryd.func35, Tryd.ntmps35
      go_wp2_with fail
      refine bodyPost_ret (v := .agg #[.int .i64 2, .int .i64 (wrap64 (n + n2)), .float .f64 0, .string ⟨#[]⟩]) (by simp [results, Tryd.results35, go_sem]) rfl ⟨by rw [HE.out], ?_⟩
      repeat (with_reducible first | exact Touch.refl _ _ | refine Touch.alloc ?_ _ | refine Touch.drewN ?_ _ | refine Touch.setCell ?_ _ _ (fun h => by simp only at h; omega))
end Go.Proofs.YtaihofkmcpcjeaaDoor

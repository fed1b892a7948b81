/- The contracts of quireref2: num, Add. -/
import Derived.Test.YtaihofkmcpcjeabDoorRef2e
namespace Go.Proofs.YtaihofkmcpcjeabDoor
open Go.RowKit
set_option linter.unusedVariables false

set_option maxHeartbeats 400000 in
theorem ref_num (v : V) (w : World) : Calls Tryd.prog 26 #[v.val] w fun e w' => e = .returned (.bool (isNum v)) ∧ w' = w.alloc (.cells v.cells 24) := by
  obtain ⟨k, n, f, s⟩ := v
  simp only [V.val, V.cells, isNum] at *
  cases h : (k == 2)
  · go_enter Tryd.func26, Tryd.ntmps26
    go_wp2_with fail
    go_ret
    exact ⟨rfl, rfl⟩
  · go_enter Tryd.func26, Tryd.ntmps26
    go_wp2_with fail
    go_ret
    exact ⟨rfl, rfl⟩

theorem ref_clean_sum (r : Nat) (w : World) : Calls Tryd.prog 27 #[.agg #[.int .i64 3, .int .i64 0, .float .f64 r, .string ⟨#[]⟩]] w fun e w' => e = .returned (.agg #[.int .i64 3, .int .i64 0, .float .f64 (refBits r), .string ⟨#[]⟩]) ∧ w' = (w.alloc (.cells #[.int .i64 3, .int .i64 0, .float .f64 (refBits r), .string ⟨#[]⟩] 24)).alloc (.cells #[.int .i64 3, .int .i64 0, .float .f64 (refBits r), .string ⟨#[]⟩] 24) :=
  ref_clean ⟨3, 0, r, ⟨#[]⟩⟩ w

set_option maxRecDepth 100000 in
set_option maxHeartbeats 2000000 in
theorem ref_add (a b : V) (w : World) : Calls Tryd.prog 10 #[a.val, b.val] w fun e w' => e = .returned (refAdd a b).val ∧ Touch (fun _ => False) w w' := by
  obtain ⟨k, n, f, s⟩ := a
  obtain ⟨k2, n2, f2, s2⟩ := b
  have N1 : Hid (∀ w, Calls Tryd.prog 26 #[V.val ⟨k, n, f, s⟩] w fun e w' => e = .returned (.bool (isNum ⟨k, n, f, s⟩)) ∧ w' = w.alloc (.cells (V.cells ⟨k, n, f, s⟩) 24)) := ref_num _
  have N2 : Hid (∀ w, Calls Tryd.prog 26 #[V.val ⟨k2, n2, f2, s2⟩] w fun e w' => e = .returned (.bool (isNum ⟨k2, n2, f2, s2⟩)) ∧ w' = w.alloc (.cells (V.cells ⟨k2, n2, f2, s2⟩) 24)) := ref_num _
  have HA : Hid (refAdd ⟨k, n, f, s⟩ ⟨k2, n2, f2, s2⟩ = if isNum ⟨k, n, f, s⟩ && isNum ⟨k2, n2, f2, s2⟩ then (if k == 2 && k2 == 2 then ⟨2, wrap64 (n + n2), 0, ⟨#[]⟩⟩ else ⟨3, 0, sumBits (if k == 2 then floatOfInt .f64 n else f) (if k2 == 2 then floatOfInt .f64 n2 else f2), ⟨#[]⟩⟩) else ⟨0, 0, 0, ⟨#[]⟩⟩) := rfl
  simp only [V.val, V.cells] at *
  have h2 := run_store_f64 Tryd.prog
  have h3 := run_add_f64 Tryd.prog
  generalize refAdd ⟨k, n, f, s⟩ ⟨k2, n2, f2, s2⟩ = C at *
  generalize isNum ⟨k, n, f, s⟩ = m1 at *
  generalize isNum ⟨k2, n2, f2, s2⟩ = m2 at *
  cases m1
  · have HE : Hid (C = ⟨0, 0, 0, ⟨#[]⟩⟩) := HA.out
    clear HA
    go_enter Tryd.func10, Tryd.ntmps10
    go_wp2_with fail
    refine (N1.out _).mono ?_
    rintro e w1 ⟨rfl, rfl⟩
    go_wp2_with fail
    refine bodyPost_ret (v := .agg #[.int .i64 0, .int .i64 0, .float .f64 0, .string ⟨#[]⟩]) (by simp [results, Tryd.results10, go_sem]) rfl ⟨by rw [HE.out], ?_⟩
    exact (((((Touch.refl _ _).alloc _).alloc _).alloc _).alloc _)
  · cases m2
    · have HE : Hid (C = ⟨0, 0, 0, ⟨#[]⟩⟩) := HA.out
      clear HA
      go_enter Tryd.func10, Tryd.ntmps10
      go_wp2_with fail
      refine (N1.out _).mono ?_
      rintro e w1 ⟨rfl, rfl⟩
      go_wp2_with fail
      refine (N2.out _).mono ?_
      rintro e w1 ⟨rfl, rfl⟩
      go_wp2_with fail
      refine bodyPost_ret (v := .agg #[.int .i64 0, .int .i64 0, .float .f64 0, .string ⟨#[]⟩]) (by simp [results, Tryd.results10, go_sem]) rfl ⟨by rw [HE.out], ?_⟩
      exact ((((((Touch.refl _ _).alloc _).alloc _).alloc _).alloc _).alloc _)
    · cases t1 : (k == 2)
      · cases t2 : (k2 == 2)
        · have HE : Hid (C = ⟨3, 0, sumBits f f2, ⟨#[]⟩⟩) := by rw [Hid, HA.out, t1, t2]; rfl
          clear HA
          go_enter Tryd.func10, Tryd.ntmps10
          go_wp2_with fail
          refine (N1.out _).mono ?_
          rintro e w1 ⟨rfl, rfl⟩
          go_wp2_with fail
          refine (N2.out _).mono ?_
          rintro e w1 ⟨rfl, rfl⟩
          go_wp2_with fail
          go_quiet (fail)
          go_wp2_with (simp only [h3])
          refine (ref_clean_sum _ _).mono ?_
          rintro e w1 ⟨rfl, rfl⟩
          simp only [addR_bits]
          generalize sumBits f f2 = g at *
          go_wp2_with fail
          refine bodyPost_ret (v := .agg #[.int .i64 3, .int .i64 0, .float .f64 g, .string ⟨#[]⟩]) (by simp [results, Tryd.results10, go_sem]) rfl ⟨by rw [HE.out], ?_⟩
          exact ((((((((((((Touch.refl _ _).alloc _).alloc _).alloc _).alloc _).alloc _).drewN _).setCell _ _ (fun h => by simp only at h; omega)).setCell _ _ (fun h => by simp only at h; omega)).setCell _ _ (fun h => by simp only at h; omega)).setCell _ _ (fun h => by simp only at h; omega)).alloc _).alloc _
        · have HE : Hid (C = ⟨3, 0, sumBits f (floatOfInt .f64 n2), ⟨#[]⟩⟩) := by rw [Hid, HA.out, t1, t2]; rfl
          clear HA
          go_enter Tryd.func10, Tryd.ntmps10
          go_wp2_with fail
          refine (N1.out _).mono ?_
          rintro e w1 ⟨rfl, rfl⟩
          go_wp2_with fail
          refine (N2.out _).mono ?_
          rintro e w1 ⟨rfl, rfl⟩
          go_wp2_with fail
          go_quiet (fail)
          go_wp2_with (simp only [h3])
          refine (ref_clean_sum _ _).mono ?_
          rintro e w1 ⟨rfl, rfl⟩
          simp only [addR_bits]
          generalize sumBits f (floatOfInt .f64 n2) = g at *
          go_wp2_with fail
          refine bodyPost_ret (v := .agg #[.int .i64 3, .int .i64 0, .float .f64 g, .string ⟨#[]⟩]) (by simp [results, Tryd.results10, go_sem]) rfl ⟨by rw [HE.out], ?_⟩
          exact ((((((((((((Touch.refl _ _).alloc _).alloc _).alloc _).alloc _).alloc _).drewN _).setCell _ _ (fun h => by simp only at h; omega)).setCell _ _ (fun h => by simp only at h; omega)).setCell _ _ (fun h => by simp only at h; omega)).setCell _ _ (fun h => by simp only at h; omega)).alloc _).alloc _
      · cases t2 : (k2 == 2)
        · have HE : Hid (C = ⟨3, 0, sumBits (floatOfInt .f64 n) f2, ⟨#[]⟩⟩) := by rw [Hid, HA.out, t1, t2]; rfl
          clear HA
          go_enter Tryd.func10, Tryd.ntmps10
          go_wp2_with fail
          refine (N1.out _).mono ?_
          rintro e w1 ⟨rfl, rfl⟩
          go_wp2_with fail
          refine (N2.out _).mono ?_
          rintro e w1 ⟨rfl, rfl⟩
          go_wp2_with fail
          go_quiet (fail)
          go_wp2_with (simp only [h3])
          refine (ref_clean_sum _ _).mono ?_
          rintro e w1 ⟨rfl, rfl⟩
          simp only [addR_bits]
          generalize sumBits (floatOfInt .f64 n) f2 = g at *
          go_wp2_with fail
          refine bodyPost_ret (v := .agg #[.int .i64 3, .int .i64 0, .float .f64 g, .string ⟨#[]⟩]) (by simp [results, Tryd.results10, go_sem]) rfl ⟨by rw [HE.out], ?_⟩
          exact ((((((((((((Touch.refl _ _).alloc _).alloc _).alloc _).alloc _).alloc _).drewN _).setCell _ _ (fun h => by simp only at h; omega)).setCell _ _ (fun h => by simp only at h; omega)).setCell _ _ (fun h => by simp only at h; omega)).setCell _ _ (fun h => by simp only at h; omega)).alloc _).alloc _
        · have HE : Hid (C = ⟨2, wrap64 (n + n2), 0, ⟨#[]⟩⟩) := by rw [Hid, HA.out, t1, t2]; rfl
          clear HA
          go_enter Tryd.func10, Tryd.ntmps10
          go_wp2_with fail
          refine (N1.out _).mono ?_
          rintro e w1 ⟨rfl, rfl⟩
          go_wp2_with fail
          refine (N2.out _).mono ?_
          rintro e w1 ⟨rfl, rfl⟩
          go_wp2_with fail
          refine bodyPost_ret (v := .agg #[.int .i64 2, .int .i64 (wrap64 (n + n2)), .float .f64 0, .string ⟨#[]⟩]) (by simp [results, Tryd.results10, go_sem]) rfl ⟨by rw [HE.out], ?_⟩
          exact ((((((Touch.refl _ _).alloc _).alloc _).alloc _).alloc _).alloc _)
end Go.Proofs.YtaihofkmcpcjeabDoor

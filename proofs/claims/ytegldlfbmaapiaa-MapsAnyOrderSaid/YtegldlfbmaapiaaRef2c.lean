/- The contract of quireref2.Check. -/
import Derived.Test.YtegldlfbmaapiaaPart6
import Derived.Test.YtegldlfbmaapiaaRunes
namespace Go.Proofs.Ytegldlfbmaapiaa
open Go.RowKit
set_option linter.unusedVariables false

/-- Whether a value is taken. -/
def vOk (v : V) : Bool :=
  if v.k = 0 ∨ v.k = 5 then (v.n == 0) && ((v.f : Int) == 0) && v.s.toList.isEmpty
  else if v.k = 1 then ((v.n == 0) || (v.n == 1)) && ((v.f : Int) == 0) && v.s.toList.isEmpty
  else if v.k = 2 then ((v.f : Int) == 0) && v.s.toList.isEmpty
  else if v.k = 3 then (v.n == 0) && v.s.toList.isEmpty
  else if v.k = 4 then (v.n == 0) && ((v.f : Int) == 0) && decide (v.s.size ≤ 4096) && (runesOf v.s.data.toList).isSome
  else false
def refCheck (v : V) : Int := if vOk v then 0 else 20

set_option maxRecDepth 100000 in
set_option maxHeartbeats 4000000 in
theorem ref_check_null (v : V) (hk : v.k = 0) (hs : v.s.size ≤ 17592186044416) (w : World) : Calls Try.prog 30 #[v.val] w fun e w' => e = .returned (.int .i64 (refCheck v)) ∧ Touch (fun _ => False) w w' := by
  obtain ⟨k, n, f, s⟩ := v
  simp only [V.val] at *
  have hb := f64bits_run
  have hnot : ∀ (x : Bool) (w : World), (Op.unary .not (.bool x)).run Try.prog w = .ok (.bool (!x)) w := fun _ _ => rfl
  subst hk
  have hV : vOk ⟨0, n, f, s⟩ = ((n == 0) && ((f : Int) == 0) && s.toList.isEmpty) := by
    unfold vOk
    simp only
    rw [if_pos (by decide)]
  have HR : Hid (refCheck ⟨0, n, f, s⟩ = if ((n == 0) && ((f : Int) == 0) && s.toList.isEmpty) then 0 else 20) := by rw [Hid, refCheck, hV]
  clear hV
  have HT : Hid (Touch (fun _ => False) w (w.alloc (.cells #[.int .i64 0, .int .i64 n, .float .f64 f, .string s] 37))) := (Touch.refl _ _).alloc _
  generalize refCheck ⟨0, n, f, s⟩ = C at *
  cases h0 : (n == 0) <;> cases h1 : ((f : Int) == 0) <;> cases h2 : s.toList.isEmpty
  all_goals
    have HR2 := HR.out
    rw [h0, h1, h2] at HR2
    have HE : Hid (C = _) := HR2
    clear HR2
    go_enter Try.func30, Try.ntmps30
    go_wp2_with fail
    go_ret
    exact ⟨by rw [HE.out]; rfl, HT.out⟩

set_option maxRecDepth 100000 in
set_option maxHeartbeats 4000000 in
theorem ref_check_map (v : V) (hk : v.k = 5) (hs : v.s.size ≤ 17592186044416) (w : World) : Calls Try.prog 30 #[v.val] w fun e w' => e = .returned (.int .i64 (refCheck v)) ∧ Touch (fun _ => False) w w' := by
  obtain ⟨k, n, f, s⟩ := v
  simp only [V.val] at *
  have hb := f64bits_run
  have hnot : ∀ (x : Bool) (w : World), (Op.unary .not (.bool x)).run Try.prog w = .ok (.bool (!x)) w := fun _ _ => rfl
  subst hk
  have hV : vOk ⟨5, n, f, s⟩ = ((n == 0) && ((f : Int) == 0) && s.toList.isEmpty) := by
    unfold vOk
    simp only
    rw [if_pos (by decide)]
  have HR : Hid (refCheck ⟨5, n, f, s⟩ = if ((n == 0) && ((f : Int) == 0) && s.toList.isEmpty) then 0 else 20) := by rw [Hid, refCheck, hV]
  clear hV
  have HT : Hid (Touch (fun _ => False) w (w.alloc (.cells #[.int .i64 5, .int .i64 n, .float .f64 f, .string s] 37))) := (Touch.refl _ _).alloc _
  generalize refCheck ⟨5, n, f, s⟩ = C at *
  cases h0 : (n == 0) <;> cases h1 : ((f : Int) == 0) <;> cases h2 : s.toList.isEmpty
  all_goals
    have HR2 := HR.out
    rw [h0, h1, h2] at HR2
    have HE : Hid (C = _) := HR2
    clear HR2
    go_enter Try.func30, Try.ntmps30
    go_wp2_with fail
    go_ret
    exact ⟨by rw [HE.out]; rfl, HT.out⟩

set_option maxRecDepth 100000 in
set_option maxHeartbeats 4000000 in
theorem ref_check_bool (v : V) (hk : v.k = 1) (hs : v.s.size ≤ 17592186044416) (w : World) : Calls Try.prog 30 #[v.val] w fun e w' => e = .returned (.int .i64 (refCheck v)) ∧ Touch (fun _ => False) w w' := by
  obtain ⟨k, n, f, s⟩ := v
  simp only [V.val] at *
  have hb := f64bits_run
  have hnot : ∀ (x : Bool) (w : World), (Op.unary .not (.bool x)).run Try.prog w = .ok (.bool (!x)) w := fun _ _ => rfl
  subst hk
  have hV : vOk ⟨1, n, f, s⟩ = (((n == 0) || (n == 1)) && ((f : Int) == 0) && s.toList.isEmpty) := by
    unfold vOk
    simp only
    rw [if_neg (by decide), if_pos trivial]
  have HR : Hid (refCheck ⟨1, n, f, s⟩ = if (((n == 0) || (n == 1)) && ((f : Int) == 0) && s.toList.isEmpty) then 0 else 20) := by rw [Hid, refCheck, hV]
  clear hV
  have HT : Hid (Touch (fun _ => False) w (w.alloc (.cells #[.int .i64 1, .int .i64 n, .float .f64 f, .string s] 37))) := (Touch.refl _ _).alloc _
  generalize refCheck ⟨1, n, f, s⟩ = C at *
  cases h0 : (n == 0) <;> cases h1 : (n == 1) <;> cases h2 : ((f : Int) == 0) <;> cases h3 : s.toList.isEmpty
  all_goals
    have HR2 := HR.out
    rw [h0, h1, h2, h3] at HR2
    have HE : Hid (C = _) := HR2
    clear HR2
    go_enter Try.func30, Try.ntmps30
    go_wp2_with fail
    go_ret
    exact ⟨by rw [HE.out]; rfl, HT.out⟩

set_option maxRecDepth 100000 in
set_option maxHeartbeats 4000000 in
theorem ref_check_int (v : V) (hk : v.k = 2) (hs : v.s.size ≤ 17592186044416) (w : World) : Calls Try.prog 30 #[v.val] w fun e w' => e = .returned (.int .i64 (refCheck v)) ∧ Touch (fun _ => False) w w' := by
  obtain ⟨k, n, f, s⟩ := v
  simp only [V.val] at *
  have hb := f64bits_run
  have hnot : ∀ (x : Bool) (w : World), (Op.unary .not (.bool x)).run Try.prog w = .ok (.bool (!x)) w := fun _ _ => rfl
  subst hk
  have hV : vOk ⟨2, n, f, s⟩ = (((f : Int) == 0) && s.toList.isEmpty) := by
    unfold vOk
    simp only
    rw [if_neg (by decide), if_neg (by decide), if_pos trivial]
  have HR : Hid (refCheck ⟨2, n, f, s⟩ = if (((f : Int) == 0) && s.toList.isEmpty) then 0 else 20) := by rw [Hid, refCheck, hV]
  clear hV
  have HT : Hid (Touch (fun _ => False) w (w.alloc (.cells #[.int .i64 2, .int .i64 n, .float .f64 f, .string s] 37))) := (Touch.refl _ _).alloc _
  generalize refCheck ⟨2, n, f, s⟩ = C at *
  cases h0 : ((f : Int) == 0) <;> cases h1 : s.toList.isEmpty
  all_goals
    have HR2 := HR.out
    rw [h0, h1] at HR2
    have HE : Hid (C = _) := HR2
    clear HR2
    go_enter Try.func30, Try.ntmps30
    go_wp2_with fail
    go_ret
    exact ⟨by rw [HE.out]; rfl, HT.out⟩

set_option maxRecDepth 100000 in
set_option maxHeartbeats 4000000 in
theorem ref_check_float (v : V) (hk : v.k = 3) (hs : v.s.size ≤ 17592186044416) (w : World) : Calls Try.prog 30 #[v.val] w fun e w' => e = .returned (.int .i64 (refCheck v)) ∧ Touch (fun _ => False) w w' := by
  obtain ⟨k, n, f, s⟩ := v
  simp only [V.val] at *
  have hb := f64bits_run
  have hnot : ∀ (x : Bool) (w : World), (Op.unary .not (.bool x)).run Try.prog w = .ok (.bool (!x)) w := fun _ _ => rfl
  subst hk
  have hV : vOk ⟨3, n, f, s⟩ = ((n == 0) && s.toList.isEmpty) := by
    unfold vOk
    simp only
    rw [if_neg (by decide), if_neg (by decide), if_neg (by decide), if_pos trivial]
  have HR : Hid (refCheck ⟨3, n, f, s⟩ = if ((n == 0) && s.toList.isEmpty) then 0 else 20) := by rw [Hid, refCheck, hV]
  clear hV
  have HT : Hid (Touch (fun _ => False) w (w.alloc (.cells #[.int .i64 3, .int .i64 n, .float .f64 f, .string s] 37))) := (Touch.refl _ _).alloc _
  generalize refCheck ⟨3, n, f, s⟩ = C at *
  cases h0 : (n == 0) <;> cases h1 : s.toList.isEmpty
  all_goals
    have HR2 := HR.out
    rw [h0, h1] at HR2
    have HE : Hid (C = _) := HR2
    clear HR2
    go_enter Try.func30, Try.ntmps30
    go_wp2_with fail
    go_ret
    exact ⟨by rw [HE.out]; rfl, HT.out⟩

set_option maxRecDepth 100000 in
set_option maxHeartbeats 4000000 in
theorem ref_check_other (v : V) (hk : v.k < 0 ∨ 5 < v.k) (hs : v.s.size ≤ 17592186044416) (w : World) : Calls Try.prog 30 #[v.val] w fun e w' => e = .returned (.int .i64 (refCheck v)) ∧ Touch (fun _ => False) w w' := by
  obtain ⟨k, n, f, s⟩ := v
  simp only [V.val] at *
  have hb := f64bits_run
  have hnot : ∀ (x : Bool) (w : World), (Op.unary .not (.bool x)).run Try.prog w = .ok (.bool (!x)) w := fun _ _ => rfl
  have t0 : (k == 0) = false := by rw [beq_eq_false_iff_ne]; omega
  have t1 : (k == 1) = false := by rw [beq_eq_false_iff_ne]; omega
  have t2 : (k == 2) = false := by rw [beq_eq_false_iff_ne]; omega
  have t3 : (k == 3) = false := by rw [beq_eq_false_iff_ne]; omega
  have t4 : (k == 4) = false := by rw [beq_eq_false_iff_ne]; omega
  have t5 : (k == 5) = false := by rw [beq_eq_false_iff_ne]; omega
  have hV : vOk ⟨k, n, f, s⟩ = (false) := by
    unfold vOk
    simp only
    rw [if_neg (by omega), if_neg (by omega), if_neg (by omega), if_neg (by omega), if_neg (by omega)]
  have HR : Hid (refCheck ⟨k, n, f, s⟩ = if (false) then 0 else 20) := by rw [Hid, refCheck, hV]
  clear hV
  have HT : Hid (Touch (fun _ => False) w (w.alloc (.cells #[.int .i64 k, .int .i64 n, .float .f64 f, .string s] 37))) := (Touch.refl _ _).alloc _
  generalize refCheck ⟨k, n, f, s⟩ = C at *
  skip
  all_goals
    have HR2 := HR.out
    skip
    have HE : Hid (C = _) := HR2
    clear HR2
    go_enter Try.func30, Try.ntmps30
    go_wp2_with fail
    go_ret
    exact ⟨by rw [HE.out]; rfl, HT.out⟩

set_option maxRecDepth 100000 in
set_option maxHeartbeats 4000000 in
theorem ref_check_text (v : V) (hk : v.k = 4) (hs : v.s.size ≤ 17592186044416) (w : World) : Calls Try.prog 30 #[v.val] w fun e w' => e = .returned (.int .i64 (refCheck v)) ∧ Touch (fun _ => False) w w' := by
  obtain ⟨k, n, f, s⟩ := v
  simp only [V.val] at *
  have hb := f64bits_run
  have hnot : ∀ (x : Bool) (w : World), (Op.unary .not (.bool x)).run Try.prog w = .ok (.bool (!x)) w := fun _ _ => rfl
  subst hk
  have hV : vOk ⟨4, n, f, s⟩ = ((n == 0) && ((f : Int) == 0) && decide (s.size ≤ 4096) && (runesOf s.data.toList).isSome) := by
    unfold vOk
    simp only
    rw [if_neg (by decide), if_neg (by decide), if_neg (by decide), if_neg (by decide), if_pos trivial]
  have HR : Hid (refCheck ⟨4, n, f, s⟩ = if ((n == 0) && ((f : Int) == 0) && decide (s.size ≤ 4096) && (runesOf s.data.toList).isSome) then 0 else 20) := by rw [Hid, refCheck, hV]
  clear hV
  have HT : Hid (Touch (fun _ => False) w (w.alloc (.cells #[.int .i64 4, .int .i64 n, .float .f64 f, .string s] 37))) := (Touch.refl _ _).alloc _
  have HC : Hid (∀ w, Calls Try.prog 32 #[.string s] w fun e w' => e = .returned (.bool (runesOf s.data.toList).isSome) ∧ Touch (fun _ => False) w w') := fun w => ref_check3 s hs w
  generalize refCheck ⟨4, n, f, s⟩ = C at *
  cases h0 : (n == 0)
  · have HE : Hid (C = 20) := by rw [Hid, HR.out, h0]; rfl
    go_enter Try.func30, Try.ntmps30
    go_wp2_with fail
    go_ret
    exact ⟨by rw [HE.out]; rfl, HT.out⟩
  cases h1 : ((f : Int) == 0)
  · have HE : Hid (C = 20) := by rw [Hid, HR.out, h0, h1]; rfl
    go_enter Try.func30, Try.ntmps30
    go_wp2_with fail
    go_ret
    exact ⟨by rw [HE.out]; rfl, HT.out⟩
  by_cases h2 : s.size ≤ 4096
  · have HE : Hid (C = if (runesOf s.data.toList).isSome then 0 else 20) := by rw [Hid, HR.out, h0, h1, decide_eq_true h2]; rfl
    go_enter Try.func30, Try.ntmps30
    go_wp2_with fail
    refine (HC.out _).mono ?_
    rintro e w1 ⟨rfl, hT1⟩
    have HT1 : Hid (Touch (fun _ => False) w w1) := HT.out.trans hT1
    clear hT1 HC HR
    generalize (runesOf s.data.toList).isSome = x at *
    cases x
    · go_wp2_with fail
      go_ret
      exact ⟨by rw [HE.out]; rfl, HT1.out⟩
    · go_wp2_with fail
      go_ret
      exact ⟨by rw [HE.out]; rfl, HT1.out⟩
  · have HE : Hid (C = 20) := by rw [Hid, HR.out, h0, h1, decide_eq_false h2]; rfl
    go_enter Try.func30, Try.ntmps30
    go_wp2_with fail
    go_ret
    exact ⟨by rw [HE.out]; rfl, HT.out⟩

theorem ref_check (v : V) (hs : v.s.size ≤ 17592186044416) (w : World) : Calls Try.prog 30 #[v.val] w fun e w' => e = .returned (.int .i64 (refCheck v)) ∧ Touch (fun _ => False) w w' := by
  rcases (show v.k = 0 ∨ v.k = 1 ∨ v.k = 2 ∨ v.k = 3 ∨ v.k = 4 ∨ v.k = 5 ∨ (v.k < 0 ∨ 5 < v.k) from by omega) with h | h | h | h | h | h | h
  · exact ref_check_null v h hs w
  · exact ref_check_bool v h hs w
  · exact ref_check_int v h hs w
  · exact ref_check_float v h hs w
  · exact ref_check_text v h hs w
  · exact ref_check_map v h hs w
  · exact ref_check_other v h hs w
end Go.Proofs.Ytegldlfbmaapiaa

/- The contract of value.Check. -/
import Derived.Test.YtmknkecaeagmbaaGreatDoorPart9
import Derived.Test.YtmknkecaeagmbaaGreatDoorPart2
import Derived.Test.YtmknkecaeagmbaaGreatDoorPart4
namespace Go.Proofs.YtmknkecaeagmbaaGreatDoor
open Go.RowKit
set_option linter.unusedVariables false
set_option maxRecDepth 100000

set_option maxHeartbeats 1000000 in
theorem v_check_text (n : Int) (f : Nat) (s : ByteArray) (hs : s.size ≤ 9223372036854775807) (w : World) (hT : TabsU w) : Calls Tryz.prog 64 #[.agg #[.int .i64 4, .int .i64 n, .float .f64 f, .string s]] w fun e w' => e = .returned (.int .i64 (errOf ((decide (s.size ≤ 4096) && (runesOf s.data.toList).isSome) && ((n == 0) && ((f : Int) == 0) && true)))) ∧ Touch (fun _ => False) w w' := by
  have HV : Hid (∀ w, TabsU w → Calls Tryz.prog 89 #[.string s] w fun e w' => e = .returned (.bool (runesOf s.data.toList).isSome) ∧ Touch (fun _ => False) w w') := valid_any s hs
  generalize (runesOf s.data.toList).isSome = R at *
  have HU : Hid (TabsU w) := hT
  clear hT
  have hnil : (ByteArray.mk #[]).toList.isEmpty = true := by decide +kernel
  generalize hE : ((n == 0) && ((f : Int) == 0) && true) = E
  have HE : Hid (((n == 0) && ((f : Int) == 0) && (ByteArray.mk #[]).toList.isEmpty) = E) := by rw [Hid, hnil]; exact hE
  clear hE hnil
  have h2 := run_store_f64 Tryz.prog
  have hnot : ∀ (x : Bool) (w : World), (Op.unary .not (.bool x)).run Tryz.prog w = .ok (.bool (!x)) w := fun _ _ => rfl
  by_cases hz : s.size ≤ 4096
  · rw [decide_eq_true hz]
    go_enter Tryz.func64, Tryz.ntmps64
    go_wp2_with fail
    refine (HV.out _ (HU.out.keep (((Touch.refl _ _).alloc _).alloc _))).mono ?_
    rintro e w1 ⟨rfl, hT⟩
    have hb : w1.heap[w.heap.size + 1]? = some (.cells #[.int .i64 4, .int .i64 n, .float .f64 f, .string s] 27) := by
      rw [hT.block _ (by simp) id]
      have := heap_alloc_new (w.alloc (.cells #[.int .i64 4, .int .i64 n, .float .f64 f, .string s] 27)) (.cells #[.int .i64 4, .int .i64 n, .float .f64 f, .string s] 27)
      rwa [show (w.alloc (.cells #[.int .i64 4, .int .i64 n, .float .f64 f, .string s] 27)).heap.size = w.heap.size + 1 by simp] at this
    have d0 : w1.cell? ⟨w.heap.size + 1, 0, none⟩ = some (.int .i64 4) := by rw [cell_of_block hb]; rfl
    have d1 : w1.cell? ⟨w.heap.size + 1, 1, none⟩ = some (.int .i64 n) := by rw [cell_of_block hb]; rfl
    have d2 : w1.cell? ⟨w.heap.size + 1, 2, none⟩ = some (.float .f64 f) := by rw [cell_of_block hb]; rfl
    have d3 : w1.cell? ⟨w.heap.size + 1, 3, none⟩ = some (.string s) := by rw [cell_of_block hb]; rfl
    have z3 : w1.frozen? ⟨w.heap.size + 1, 3, none⟩ = false := free_of_block hb
    have HT1 : Hid (Touch (fun _ => False) w (w1.setCell ⟨w.heap.size + 1, 3, none⟩ (.string ⟨#[]⟩))) := (Touch.trans (((Touch.refl _ _).alloc _).alloc _) hT).setCell _ _ (fun h => by simp only at h; omega)
    clear hT hb HV HU hz
    cases R
    · go_wp2_with fail
      go_ret
      exact ⟨rfl, HT1.out⟩
    · go_wp2_with fail
      refine (v_empty_of 4 n f ⟨#[]⟩ E HE.out _).mono ?_
      rintro e w2 ⟨rfl, rfl⟩
      have HT2 : Hid (Touch (fun _ => False) w ((w1.setCell ⟨w.heap.size + 1, 3, none⟩ (.string ⟨#[]⟩)).alloc (.cells #[.int .i64 4, .int .i64 n, .float .f64 f, .string ⟨#[]⟩] 27))) := HT1.out.alloc _
      clear HT1 d0 d1 d2 d3 z3
      cases E
      · go_wp2_with fail
        go_ret
        exact ⟨rfl, HT2.out⟩
      · go_wp2_with fail
        go_ret
        exact ⟨rfl, HT2.out⟩
  · rw [decide_eq_false hz]
    simp only [Bool.false_and]
    clear HV HU
    go_enter Tryz.func64, Tryz.ntmps64
    go_wp2_with fail
    go_ret
    refine ⟨rfl, ?_⟩
    repeat (with_reducible first | exact Touch.refl _ _ | refine Touch.alloc ?_ _ | refine Touch.drewN ?_ _ | refine Touch.setCell ?_ _ _ (fun h => by simp only at h; omega))

/-- What value.Check answers is what the document's does. -/
theorem v_check (v : V) (hs : v.s.size ≤ 9223372036854775807) (w : World) (hT : TabsU w) : Calls Tryz.prog 64 #[v.val] w fun e w' => e = .returned (.int .i64 (refCheck v)) ∧ Touch (fun _ => False) w w' := by
  obtain ⟨k, n, f, s⟩ := v
  have key : ∀ b : Bool, vOk ⟨k, n, f, s⟩ = b → refCheck ⟨k, n, f, s⟩ = errOf b := by
    intro b h; unfold refCheck errOf; rw [h]
  have ez : ((0 : Int) == 0) = true := rfl
  have en : (((0 : Nat) : Int) == 0) = true := rfl
  by_cases h0 : k = 0
  · subst h0; rw [key ((n == 0) && ((f : Int) == 0) && s.toList.isEmpty) (by unfold vOk; simp)]; exact v_check_null n f s w
  by_cases h5 : k = 5
  · subst h5; rw [key ((n == 0) && ((f : Int) == 0) && s.toList.isEmpty) (by unfold vOk; simp)]; exact v_check_map n f s w
  by_cases h1 : k = 1
  · subst h1; rw [key (((n == 0) || (n == 1)) && (((0 : Int) == 0) && ((f : Int) == 0) && s.toList.isEmpty)) (by unfold vOk; simp [Bool.and_assoc])]; exact v_check_bool n f s w
  by_cases h2 : k = 2
  · subst h2; rw [key (((0 : Int) == 0) && ((f : Int) == 0) && s.toList.isEmpty) (by unfold vOk; simp)]; exact v_check_int n f s w
  by_cases h3 : k = 3
  · subst h3; rw [key ((n == 0) && (((0 : Nat) : Int) == 0) && s.toList.isEmpty) (by unfold vOk; simp)]; exact v_check_float n f s w
  by_cases h4 : k = 4
  · subst h4
    rw [key ((decide (s.size ≤ 4096) && (runesOf s.data.toList).isSome) && ((n == 0) && ((f : Int) == 0) && true)) (by
      unfold vOk; simp only [show ¬ ((4 : Int) = 0 ∨ (4 : Int) = 5) by decide, show ¬ ((4 : Int) = 1) by decide, show ¬ ((4 : Int) = 2) by decide, show ¬ ((4 : Int) = 3) by decide, if_false, if_true]
      cases (n == 0) <;> cases ((f : Int) == 0) <;> cases decide (s.size ≤ 4096) <;> cases (runesOf s.data.toList).isSome <;> rfl)]
    exact v_check_text n f s hs w hT
  · rw [key false (by unfold vOk; simp [h0, h1, h2, h3, h4, h5])]; exact v_check_other k n f s h0 h1 h2 h3 h4 h5 w
end Go.Proofs.YtmknkecaeagmbaaGreatDoor

/- Small ones: texts, keys, stamps, values that text can carry; the document's. -/
namespace Go.Proofs.YtmknkecaeagmbaaGreatDoor
open Go.RowKit
set_option linter.unusedVariables false
set_option linter.unusedSimpArgs false
set_option maxRecDepth 100000

def textOk (s : ByteArray) : Bool := decide (1 ≤ (rsOf s.data.toList).length) && decide ((rsOf s.data.toList).length ≤ 4096)
def keyOk (s : ByteArray) : Bool := decide (1 ≤ s.size) && (decide (s.size ≤ 64) && (runesOf s.data.toList).isSome)
def stampOk (n : Int) : Bool := decide (1 ≤ n) && decide (n ≤ 9007199254740991)
def plainOk (v : V) : Bool := (refCheck v == 0) && (v.k != 5)

theorem rightText_any (s : ByteArray) (hs : s.size ≤ 4611686018427387904) (w : World) (hT : TabsU w) : Calls Tryz.prog 61 #[.string s] w fun e w' => e = .returned (.bool (textOk s)) ∧ Touch (fun _ => False) w w' := by
  have HL : Hid (Calls Tryz.prog 49 #[.string s] w fun e w' => e = .returned (.int .i64 ((rsOf s.data.toList).length : Int)) ∧ Touch (fun _ => False) w w') := utf_len s hs w hT
  unfold textOk
  generalize (rsOf s.data.toList).length = n at *
  clear hs hT
  by_cases h1 : 1 ≤ n
  · by_cases h2 : n ≤ 4096
    · have g1 : (1 : Int) ≤ (n : Int) := by omega
      have g2 : (n : Int) ≤ 4096 := by omega
      go_enter Tryz.func61, Tryz.ntmps61
      go_wp2_with fail
      refine HL.out.mono ?_
      rintro e w1 ⟨rfl, t⟩
      have HT : Hid (Touch (fun _ => False) w w1) := t
      clear t
      go_wp2_with fail
      go_ret
      exact ⟨by first | (simp [h1, h2]; done) | (simp [h1, h2]; omega), HT.out⟩
    · have g1 : (1 : Int) ≤ (n : Int) := by omega
      have g2 : ¬ (n : Int) ≤ 4096 := by omega
      go_enter Tryz.func61, Tryz.ntmps61
      go_wp2_with fail
      refine HL.out.mono ?_
      rintro e w1 ⟨rfl, t⟩
      have HT : Hid (Touch (fun _ => False) w w1) := t
      clear t
      go_wp2_with fail
      go_ret
      exact ⟨by first | (simp [h1, h2]; done) | (simp [h1, h2]; omega), HT.out⟩
  · have g1 : ¬ (1 : Int) ≤ (n : Int) := by omega
    go_enter Tryz.func61, Tryz.ntmps61
    go_wp2_with fail
    refine HL.out.mono ?_
    rintro e w1 ⟨rfl, t⟩
    have HT : Hid (Touch (fun _ => False) w w1) := t
    clear t
    go_wp2_with fail
    go_ret
    exact ⟨by first | (simp [h1]; done) | (simp; omega), HT.out⟩
theorem rightStamp_any (n : Int) (w : World) : Calls Tryz.prog 65 #[.int .u64 n] w fun e w' => e = .returned (.bool (stampOk n)) ∧ w' = w := by
  unfold stampOk
  by_cases h1 : 1 ≤ n
  · by_cases h2 : n ≤ 9007199254740991
    · go_enter Tryz.func65, Tryz.ntmps65
      go_wp2_with fail
      go_ret
      exact ⟨by first | (simp [h1, h2]; done) | (simp [h1, h2]; omega), rfl⟩
    · go_enter Tryz.func65, Tryz.ntmps65
      go_wp2_with fail
      go_ret
      exact ⟨by first | (simp [h1, h2]; done) | (simp [h1, h2]; omega), rfl⟩
  · go_enter Tryz.func65, Tryz.ntmps65
    go_wp2_with fail
    go_ret
    exact ⟨by first | (simp [h1]; done) | (simp; omega), rfl⟩
theorem rightKey_any (s : ByteArray) (hs : s.size ≤ 4611686018427387904) (w : World) (hT : TabsU w) : Calls Tryz.prog 63 #[.string s] w fun e w' => e = .returned (.bool (keyOk s)) ∧ Touch (fun _ => False) w w' := by
  have HL : Hid (Calls Tryz.prog 88 #[.string s] w fun e w' => e = .returned (.bool (runesOf s.data.toList).isSome) ∧ Touch (fun _ => False) w w') := utf_check s (by omega) w hT
  unfold keyOk
  generalize (runesOf s.data.toList).isSome = r at *
  clear hT
  by_cases h1 : 1 ≤ s.size
  · have g1 : (1 : Int) ≤ (s.size : Int) := by omega
    by_cases h2 : s.size ≤ 64
    · have g2 : (s.size : Int) ≤ 64 := by omega
      clear hs
      go_enter Tryz.func63, Tryz.ntmps63
      go_wp2_with fail
      refine HL.out.mono ?_
      rintro e w1 ⟨rfl, t⟩
      have HT : Hid (Touch (fun _ => False) w w1) := t
      clear t
      go_wp2_with fail
      go_ret
      exact ⟨by first | (simp [h1, h2]; done) | (simp [h1, h2]; omega), HT.out⟩
    · have g2 : ¬ (s.size : Int) ≤ 64 := by omega
      clear hs
      go_enter Tryz.func63, Tryz.ntmps63
      go_wp2_with fail
      go_ret
      exact ⟨by first | (simp [h1, h2]; done) | (simp [h1, h2]; omega), Touch.refl _ _⟩
  · have g1 : ¬ (1 : Int) ≤ (s.size : Int) := by omega
    clear hs
    go_enter Tryz.func63, Tryz.ntmps63
    go_wp2_with fail
    go_ret
    exact ⟨by first | (simp [h1]; done) | (simp; omega), Touch.refl _ _⟩
theorem plain_any (v : V) (hs : v.s.size ≤ 9223372036854775807) (w : World) (hT : TabsU w) : Calls Tryz.prog 62 #[v.val] w fun e w' => e = .returned (.bool (plainOk v)) ∧ Touch (fun _ => False) w w' := by
  have HL : Hid (∀ W, Touch (fun _ => False) w W → Calls Tryz.prog 64 #[v.val] W fun e w' => e = .returned (.int .i64 (refCheck v)) ∧ Touch (fun _ => False) W w') := fun W t => v_check v hs W (hT.keep t)
  unfold plainOk
  generalize refCheck v = C at *
  clear hs hT
  obtain ⟨k, n, f, s⟩ := v
  simp only [V.val] at *
  obtain ⟨t1, e1⟩ : ∃ t1, (C == 0) = t1 := ⟨_, rfl⟩
  obtain ⟨t2, e2⟩ : ∃ t2, (k != 5) = t2 := ⟨_, rfl⟩
  rw [e1, e2]
  go_enter Tryz.func62, Tryz.ntmps62
  go_wp2_with fail
  refine (HL.out _ ((Touch.refl _ _).alloc _)).mono ?_
  rintro e w1 ⟨rfl, t⟩
  have q := (t.cell (b := w.heap.size) (by simp) id 0).trans (by simp : _ = some (Value.int .i64 k))
  have HT : Hid (Touch (fun _ => False) w w1) := ((Touch.refl _ _).alloc _).trans t
  clear t
  cases t1
  · go_wp2_with fail
    go_ret
    exact ⟨by simp, HT.out⟩
  · go_wp2_with fail
    go_ret
    exact ⟨by simp, HT.out⟩
theorem none_any (c k : Int) (w : World) : Calls Tryz.prog 39 #[.agg #[.int .u64 c, .int .u64 k]] w fun e w' => e = .returned (.bool ((c == 0) && (k == 0))) ∧ Touch (fun _ => False) w w' := by
  obtain ⟨t1, e1⟩ : ∃ t1, (c == 0) = t1 := ⟨_, rfl⟩
  obtain ⟨t2, e2⟩ : ∃ t2, (k == 0) = t2 := ⟨_, rfl⟩
  rw [e1, e2]
  cases t1
  · go_enter Tryz.func39, Tryz.ntmps39
    go_wp2_with fail
    go_ret
    exact ⟨by simp, (Touch.refl _ _).alloc _⟩
  · cases t2
    · go_enter Tryz.func39, Tryz.ntmps39
      go_wp2_with fail
      go_ret
      exact ⟨by simp, (Touch.refl _ _).alloc _⟩
    · go_enter Tryz.func39, Tryz.ntmps39
      go_wp2_with fail
      go_ret
      exact ⟨by simp, (Touch.refl _ _).alloc _⟩
theorem rKey_any (s : ByteArray) (hs : s.size ≤ 17592186044416) (w : World) : Calls Tryz.prog 43 #[.string s] w fun e w' => e = .returned (.bool (keyOk s)) ∧ Touch (fun _ => False) w w' := by
  have HL : Hid (Calls Tryz.prog 41 #[.string s] w fun e w' => e = .returned (.bool (runesOf s.data.toList).isSome) ∧ Touch (fun _ => False) w w') := ref_check3 s hs w
  unfold keyOk
  generalize (runesOf s.data.toList).isSome = r at *
  by_cases h1 : 1 ≤ s.size
  · have g1 : (1 : Int) ≤ (s.size : Int) := by omega
    by_cases h2 : s.size ≤ 64
    · have g2 : (s.size : Int) ≤ 64 := by omega
      clear hs
      go_enter Tryz.func43, Tryz.ntmps43
      go_wp2_with fail
      refine HL.out.mono ?_
      rintro e w1 ⟨rfl, t⟩
      have HT : Hid (Touch (fun _ => False) w w1) := t
      clear t
      go_wp2_with fail
      go_ret
      exact ⟨by first | (simp [h1, h2]; done) | (simp [h1, h2]; omega), HT.out⟩
    · have g2 : ¬ (s.size : Int) ≤ 64 := by omega
      clear hs
      go_enter Tryz.func43, Tryz.ntmps43
      go_wp2_with fail
      go_ret
      exact ⟨by first | (simp [h1, h2]; done) | (simp [h1, h2]; omega), Touch.refl _ _⟩
  · have g1 : ¬ (1 : Int) ≤ (s.size : Int) := by omega
    clear hs
    go_enter Tryz.func43, Tryz.ntmps43
    go_wp2_with fail
    go_ret
    exact ⟨by first | (simp [h1]; done) | (simp; omega), Touch.refl _ _⟩
theorem zero_any (v : V) (hs : v.s.size ≤ 17592186044416) (w : World) : Calls Tryz.prog 42 #[v.val] w fun e w' => e = .returned (.bool ((v.k == 0) && (refCheck v == 0))) ∧ Touch (fun _ => False) w w' := by
  have HL : Hid (∀ W, Calls Tryz.prog 40 #[v.val] W fun e w' => e = .returned (.int .i64 (refCheck v)) ∧ Touch (fun _ => False) W w') := fun W => ref_check v hs W
  generalize refCheck v = C at *
  clear hs
  obtain ⟨k, n, f, s⟩ := v
  simp only [V.val] at *
  obtain ⟨t1, e1⟩ : ∃ t1, (k == 0) = t1 := ⟨_, rfl⟩
  obtain ⟨t2, e2⟩ : ∃ t2, (C == 0) = t2 := ⟨_, rfl⟩
  rw [e1, e2]
  cases t1
  · go_enter Tryz.func42, Tryz.ntmps42
    go_wp2_with fail
    go_ret
    exact ⟨by simp, (Touch.refl _ _).alloc _⟩
  · go_enter Tryz.func42, Tryz.ntmps42
    go_wp2_with fail
    refine (HL.out _).mono ?_
    rintro e w1 ⟨rfl, t⟩
    have HT : Hid (Touch (fun _ => False) w w1) := ((Touch.refl _ _).alloc _).trans t
    clear t
    go_wp2_with fail
    go_ret
    exact ⟨by simp, HT.out⟩
end Go.Proofs.YtmknkecaeagmbaaGreatDoor

/- Small ones: texts, keys, stamps, values that text can carry; the document's. -/
import Derived.Test.YtmknkecaeagmbaaGreatDoorPart9
import Derived.Test.YtmknkecaeagmbaaGreatDoorRef2c
import Derived.Test.YtmknkecaeagmbaaGreatDoorPart1
import Derived.Test.YtmknkecaeagmbaaGreatDoorRunes
import Derived.Test.YtmknkecaeagmbaaGreatDoorPart8
namespace Go.Proofs.YtmknkecaeagmbaaGreatDoor
open Go.RowKit
set_option linter.unusedVariables false
set_option linter.unusedSimpArgs false
set_option maxRecDepth 100000

def textOk (s : ByteArray) : Bool := decide (1 ≤ (rsOf s.data.toList).length) && decide ((rsOf s.data.toList).length ≤ 4096)
def keyOk (s : ByteArray) : Bool := decide (1 ≤ s.size) && (decide (s.size ≤ 64) && (runesOf s.data.toList).isSome)
def stampOk (n : Int) : Bool := decide (1 ≤ n) && decide (n ≤ 9007199254740991)
def plainOk (v : V) : Bool := (refCheck v == 0) && (v.k != 5)

theorem rightText_any (s : ByteArray) (hs : s.size ≤ 4611686018427387904) (w : World) (hT : TabsU w) : Calls Tryz.prog 61 #[.string s] w fun e w' => e = .returned (.bool (textOk s)) ∧ Touch (fun _ => False) w w' := by
  have HL : Hid (Calls Tryz.prog 49 #[.string s] w fun e w' => e = .returned (.int .i64 ((rsOf s.data.toList).length : Int)) ∧ Touch (fun _ => False) w w') := utf_len s hs w hT
  unfold textOk
  generalize (rsOf s.data.toList).length = n at *
  clear hs hT
  by_cases h1 : 1 ≤ n
  · by_cases h2 : n ≤ 4096
    · have g1 : (1 : Int) ≤ (n : Int) := by omega
      have g2 : (n : Int) ≤ 4096 := by omega
      go_enter Tryz.func61, Tryz.ntmps61
      go_wp2_with fail
      refine HL.out.mono ?_
      rintro e w1 ⟨rfl, t⟩
      have HT : Hid (Touch (fun _ => False) w w1) := t
      clear t
      go_wp2_with fail
      go_ret
      exact ⟨by first | (simp [h1, h2]; done) | (simp [h1, h2]; omega), HT.out⟩
    · have g1 : (1 : Int) ≤ (n : Int) := by omega
      have g2 : ¬ (n : Int) ≤ 4096 := by omega
      go_enter Tryz.func61, Tryz.ntmps61
      go_wp2_with fail
      refine HL.out.mono ?_
      rintro e w1 ⟨rfl, t⟩
      have HT : Hid (Touch (fun _ => False) w w1) := t
      clear t
      go_wp2_with fail
      go_ret
      exact ⟨by first | (simp [h1, h2]; done) | (simp [h1, h2]; omega), HT.out⟩
  · have g1 : ¬ (1 : Int) ≤ (n : Int) := by omega
    go_enter Tryz.func61, Tryz.ntmps61
    go_wp2_with fail
    refine HL.out.mono ?_
    rintro e w1 ⟨rfl, t⟩
    have HT : Hid (Touch (fun _ => False) w w1) := t
    clear t
    go_wp2_with fail
    go_ret
    exact ⟨by first | (simp [h1]; done) | (simp; omega), HT.out⟩
theorem rightStamp_any (n : Int) (w : World) : Calls Tryz.prog 65 #[.int .u64 n] w fun e w' => e = .returned (.bool (stampOk n)) ∧ w' = w := by
  unfold stampOk
  by_cases h1 : 1 ≤ n
  · by_cases h2 : n ≤ 9007199254740991
    · go_enter Tryz.func65, Tryz.ntmps65
      go_wp2_with fail
      go_ret
      exact ⟨by first | (simp [h1, h2]; done) | (simp [h1, h2]; omega), rfl⟩
    · go_enter Tryz.func65, Tryz.ntmps65
      go_wp2_with fail
      go_ret
      exact ⟨by first | (simp [h1, h2]; done) | (simp [h1, h2]; omega), rfl⟩
  · go_enter Tryz.func65, Tryz.ntmps65
    go_wp2_with fail
    go_ret
    exact ⟨by first | (simp [h1]; done) | (simp; omega), rfl⟩
theorem rightKey_any (s : ByteArray) (hs : s.size ≤ 4611686018427387904) (w : World) (hT : TabsU w) : Calls Tryz.prog 63 #[.string s] w fun e w' => e = .returned (.bool (keyOk s)) ∧ Touch (fun _ => False) w w' := by
  have HL : Hid (Calls Tryz.prog 88 #[.string s] w fun e w' => e = .returned (.bool (runesOf s.data.toList).isSome) ∧ Touch (fun _ => False) w w') := utf_check s (by omega) w hT
  unfold keyOk
  generalize (runesOf s.data.toList).isSome = r at *
  clear hT
  by_cases h1 : 1 ≤ s.size
  · have g1 : (1 : Int) ≤ (s.size : Int) := by omega
    by_cases h2 : s.size ≤ 64
    · have g2 : (s.size : Int) ≤ 64 := by omega
      clear hs
      go_enter Tryz.func63, Tryz.ntmps63
      go_wp2_with fail
      refine HL.out.mono ?_
      rintro e w1 ⟨rfl, t⟩
      have HT : Hid (Touch (fun _ => False) w w1) := t
      clear t
      go_wp2_with fail
      go_ret
      exact ⟨by first | (simp [h1, h2]; done) | (simp [h1, h2]; omega), HT.out⟩
    · have g2 : ¬ (s.size : Int) ≤ 64 := by omega
      clear hs
      go_enter Tryz.func63, Tryz.ntmps63
      go_wp2_with fail
      go_ret
      exact ⟨by first | (simp [h1, h2]; done) | (simp [h1, h2]; omega), Touch.refl _ _⟩
  · have g1 : ¬ (1 : Int) ≤ (s.size : Int) := by omega
    clear hs
    go_enter Tryz.func63, Tryz.ntmps63
    go_wp2_with fail
    go_ret
    exact ⟨by first | (simp [h1]; done) | (simp; omega), Touch.refl _ _⟩
theorem plain_any (v : V) (hs : v.s.size ≤ 9223372036854775807) (w : World) (hT : TabsU w) : Calls Tryz.prog 62 #[v.val] w fun e w' => e = .returned (.bool (plainOk v)) ∧ Touch (fun _ => False) w w' := by
  have HL : Hid (∀ W, Touch (fun _ => False) w W → Calls Tryz.prog 64 #[v.val] W fun e w' => e = .returned (.int .i64 (refCheck v)) ∧ Touch (fun _ => False) W w') := fun W t => v_check v hs W (hT.keep t)
  unfold plainOk
  generalize refCheck v = C at *
  clear hs hT
  obtain ⟨k, n, f, s⟩ := v
  simp only [V.val] at *
  obtain ⟨t1, e1⟩ : ∃ t1, (C == 0) = t1 := ⟨_, rfl⟩
  obtain ⟨t2, e2⟩ : ∃ t2, (k != 5) = t2 := ⟨_, rfl⟩
  rw [e1, e2]
  go_enter Tryz.func62, Tryz.ntmps62
  go_wp2_with fail
  refine (HL.out _ ((Touch.refl _ _).alloc _)).mono ?_
  rintro e w1 ⟨rfl, t⟩
  have q := (t.cell (b := w.heap.size) (by simp) id 0).trans (by simp : _ = some (Value.int .i64 k))
  have HT : Hid (Touch (fun _ => False) w w1) := ((Touch.refl _ _).alloc _).trans t
  clear t
  cases t1
  · go_wp2_with fail
    go_ret
    exact ⟨by simp, HT.out⟩
  · go_wp2_with fail
    go_ret
    exact ⟨by simp, HT.out⟩
theorem none_any (c k : Int) (w : World) : Calls Tryz.prog 39 #[.agg #[.int .u64 c, .int .u64 k]] w fun e w' => e = .returned (.bool ((c == 0) && (k == 0))) ∧ Touch (fun _ => False) w w' := by
  obtain ⟨t1, e1⟩ : ∃ t1, (c == 0) = t1 := ⟨_, rfl⟩
  obtain ⟨t2, e2⟩ : ∃ t2, (k == 0) = t2 := ⟨_, rfl⟩
  rw [e1, e2]
  cases t1
  · go_enter Tryz.func39, Tryz.ntmps39
    go_wp2_with fail
    go_ret
    exact ⟨by simp, (Touch.refl _ _).alloc _⟩
  · cases t2
    · go_enter Tryz.func39, Tryz.ntmps39
      go_wp2_with fail
      go_ret
      exact ⟨by simp, (Touch.refl _ _).alloc _⟩
    · go_enter Tryz.func39, Tryz.ntmps39
      go_wp2_with fail
      go_ret
      exact ⟨by simp, (Touch.refl _ _).alloc _⟩
theorem rKey_any (s : ByteArray) (hs : s.size ≤ 17592186044416) (w : World) : Calls Tryz.prog 43 #[.string s] w fun e w' => e = .returned (.bool (keyOk s)) ∧ Touch (fun _ => False) w w' := by
  have HL : Hid (Calls Tryz.prog 41 #[.string s] w fun e w' => e = .returned (.bool (runesOf s.data.toList).isSome) ∧ Touch (fun _ => False) w w') := ref_check3 s hs w
  unfold keyOk
  generalize (runesOf s.data.toList).isSome = r at *
  by_cases h1 : 1 ≤ s.size
  · have g1 : (1 : Int) ≤ (s.size : Int) := by omega
    by_cases h2 : s.size ≤ 64
    · have g2 : (s.size : Int) ≤ 64 := by omega
      clear hs
      go_enter Tryz.func43, Tryz.ntmps43
      go_wp2_with fail
      refine HL.out.mono ?_
      rintro e w1 ⟨rfl, t⟩
      have HT : Hid (Touch (fun _ => False) w w1) := t
      clear t
      go_wp2_with fail
      go_ret
      exact ⟨by first | (simp [h1, h2]; done) | (simp [h1, h2]; omega), HT.out⟩
    · have g2 : ¬ (s.size : Int) ≤ 64 := by omega
      clear hs
      go_enter Tryz.func43, Tryz.ntmps43
      go_wp2_with fail
      go_ret
      exact ⟨by first | (simp [h1, h2]; done) | (simp [h1, h2]; omega), Touch.refl _ _⟩
  · have g1 : ¬ (1 : Int) ≤ (s.size : Int) := by omega
    clear hs
    go_enter Tryz.func43, Tryz.ntmps43
    go_wp2_with fail
    go_ret
    exact ⟨by first | (simp [h1]; done) | (simp; omega), Touch.refl _ _⟩
theorem zero_any (v : V) (hs : v.s.size ≤ 17592186044416) (w : World) : Calls Tryz.prog 42 #[v.val] w fun e w' => e = .returned (.bool ((v.k == 0) && (refCheck v == 0))) ∧ Touch (fun _ => False) w w' := by
  have HL : Hid (∀ W, Calls Tryz.prog 40 #[v.val] W fun e w' => e = .returned (.int .i64 (refCheck v)) ∧ Touch (fun _ => False) W w') := fun W => ref_check v hs W
  generalize refCheck v = C at *
  clear hs
  obtain ⟨k, n, f, s⟩ := v
  simp only [V.val] at *
  obtain ⟨t1, e1⟩ : ∃ t1, (k == 0) = t1 := ⟨_, rfl⟩
  obtain ⟨t2, e2⟩ : ∃ t2, (C == 0) = t2 := ⟨_, rfl⟩
  rw [e1, e2]
  cases t1
  · go_enter Tryz.func42, Tryz.ntmps42
    go_wp2_with fail
    go_ret
    exact ⟨by simp, (Touch.refl _ _).alloc _⟩
  · go_enter Tryz.func42, Tryz.ntmps42
    go_wp2_with fail
    refine (HL.out _).mono ?_
    rintro e w1 ⟨rfl, t⟩
    have HT : Hid (Touch (fun _ => False) w w1) := ((Touch.refl _ _).alloc _).trans t
    clear t
    go_wp2_with fail
    go_ret
    exact ⟨by simp, HT.out⟩
end Go.Proofs.YtmknkecaeagmbaaGreatDoor

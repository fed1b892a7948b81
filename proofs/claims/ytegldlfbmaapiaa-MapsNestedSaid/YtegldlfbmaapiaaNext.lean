/- The contract of quireref3.next: the rune that a text begins with. -/
import Derived.Test.YtegldlfbmaapiaaPart1
import Derived.Test.YtegldlfbmaapiaaProg
import Derived.WalkLawsBesides
import Derived.Laws.BitsAllLaws
namespace Go.Proofs.Ytegldlfbmaapiaa
open Go.RowKit
set_option linter.unusedVariables false

/-- The bytes behind the first: f more from place i on; r: what was read. -/
def nxtGo (l : List UInt8) : Nat → Nat → Nat → Option Nat
  | 0, _, r => some r
  | f + 1, i, r => if 128 ≤ (l.getD i 0).toNat ∧ (l.getD i 0).toNat < 192 then nxtGo l f (i + 1) (r * 64 + (l.getD i 0).toNat % 64) else none
/-- A rune of n bytes, at least low; 0 bytes: none. -/
def nxtEnd (low n r : Nat) : Nat × Nat := if r < low ∨ 1114111 < r ∨ (55296 ≤ r ∧ r < 57344) then (0, 0) else (r, n)
def nxtTail (l : List UInt8) (n r low : Nat) : Nat × Nat := if l.length < n then (0, 0) else match nxtGo l (n - 1) 1 r with
  | none => (0, 0)
  | some x => nxtEnd low n x
def nxt (l : List UInt8) : Nat × Nat :=
  if (l.getD 0 0).toNat < 128 then ((l.getD 0 0).toNat, 1)
  else if 194 ≤ (l.getD 0 0).toNat ∧ (l.getD 0 0).toNat < 224 then nxtTail l 2 ((l.getD 0 0).toNat % 32) 128
  else if 224 ≤ (l.getD 0 0).toNat ∧ (l.getD 0 0).toNat < 240 then nxtTail l 3 ((l.getD 0 0).toNat % 16) 2048
  else if 240 ≤ (l.getD 0 0).toNat ∧ (l.getD 0 0).toNat < 245 then nxtTail l 4 ((l.getD 0 0).toNat % 8) 65536
  else (0, 0)

theorem cont_test (b : UInt8) : (bits .and .u8 (b.toNat : Int) 192 != 128) = !decide (128 ≤ b.toNat ∧ b.toNat < 192) := by
  have h : ∀ x : Fin 256, (bits .and .u8 ((x : Nat) : Int) 192 != 128) = !decide (128 ≤ (x : Nat) ∧ (x : Nat) < 192) := by decide +kernel
  exact h ⟨b.toNat, b.toNat_lt⟩
theorem byte_at (s : ByteArray) (i : Nat) (h : i < s.size) : s[i] = s.data.toList.getD i 0 := by
  show s.data[i] = _
  simp [List.getD, Array.getElem?_eq_getElem (show i < s.data.size from h)]
theorem i32_step (R x : Nat) (hR : R < 32768) (hx : x < 64) : bits .or .i32 ((R : Int) * 64) (x : Int) = ((R * 64 + x : Nat) : Int) := by
  have := i32_or6 (x := (R : Int) * 64) (y := (x : Int)) (by omega) (by omega) (by omega) (by omega) (by omega)
  rw [this]; omega

set_option maxRecDepth 100000 in
set_option maxHeartbeats 1000000 in
theorem ref_next2 (s : ByteArray) (hs : s.size ≤ 9223372036854775807) (h0 : 0 < s.size) (w : World) (c1 : 194 ≤ s[0].toNat) (c2 : s[0].toNat < 224) :
    Calls Try.prog 76 #[.string s] w fun e w' => e = .returned (.tuple #[.int .i32 (nxtTail s.data.toList 2 (s[0].toNat % 32) 128).1, .int .i64 (nxtTail s.data.toList 2 (s[0].toNat % 32) 128).2]) ∧ w' = w := by
  have hsl : s.data.toList.length = s.size := by simp
  have hr0 : s[0].toNat % 32 < 32 := Nat.mod_lt _ (by decide)
  generalize hx : nxtTail s.data.toList 2 (s[0].toNat % 32) 128 = X
  have HX : Hid (nxtTail s.data.toList 2 (s[0].toNat % 32) 128 = X) := hx
  clear hx
  obtain ⟨X1, X2⟩ := X
  by_cases hlen : s.size < 2
  · have HE : Hid (X1 = 0 ∧ X2 = 0) := by
      have := HX.out
      rw [nxtTail, if_pos (by omega)] at this
      cases this; exact ⟨rfl, rfl⟩
    go_enter Try.func76, Try.ntmps76
    go_wp2_with fail
    go_ret2
    obtain ⟨e1, e2⟩ := HE.out
    subst e1 e2
    exact ⟨rfl, rfl⟩
  · have HE : Hid ((match nxtGo s.data.toList 1 1 (s[0].toNat % 32) with | none => (0, 0) | some x => nxtEnd 128 2 x) = (X1, X2)) := by
      have := HX.out
      rw [nxtTail, if_neg (by omega)] at this
      exact this
    generalize hr : s[0].toNat % 32 = r0 at *
    have HR : Hid (s[0].toNat % 32 = r0) := hr
    clear hr
    have hc128 : ¬ (s[0].toNat : Int) < 128 := by omega
    go_enter Try.func76, Try.ntmps76
    go_wp2_with fail
    go_loop [7, 8] (fun r i => ∃ j R : Nat, 1 ≤ j ∧ j ≤ 2 ∧ i = .int .i64 j ∧ r = .int .i32 R ∧ R * 64 ^ (2 - j) < 2097152 ∧ nxtGo s.data.toList 1 1 r0 = nxtGo s.data.toList (2 - j) j R) (fun _ i => 2 - (intOf i).toNat)
    case atStart => exact ⟨1, s[0].toNat % 32, by omega, by omega, rfl, by go_num, by simp; omega, by rw [HR.out]⟩
    case round =>
      obtain ⟨j, R, hj1, hjn, rfl, rfl, hR, he⟩ := hrel
      have HG : Hid (nxtGo s.data.toList 1 1 r0 = nxtGo s.data.toList (2 - j) j R) := he
      clear he
      by_cases hlt : j < 2
      · have hjs : j < s.size := by omega
        have hct := cont_test s[j]
        have hbj := s[j].toNat_lt
        have HB : Hid (s[j] = s.data.toList.getD j 0) := byte_at s j hjs
        have hRb : R < 32768 := by
          have : 64 ≤ 64 ^ (2 - j) := by
            have := Nat.pow_le_pow_right (show 0 < 64 by decide) (show 1 ≤ 2 - j by omega)
            simpa using this
          have := Nat.mul_le_mul_left R this
          omega
        cases hcb : decide (128 ≤ s[j].toNat ∧ s[j].toNat < 192)
        · rw [hcb] at hct
          have HF : Hid (X1 = 0 ∧ X2 = 0) := by
            have h1 := HE.out
            rw [HG.out, show 2 - j = (2 - j - 1) + 1 from by omega, nxtGo, ← HB.out, if_neg (of_decide_eq_false hcb)] at h1
            cases h1; exact ⟨rfl, rfl⟩
          clear hcb
          go_wp2
          go_ret2
          obtain ⟨e1, e2⟩ := HF.out
          subst e1 e2
          exact ⟨rfl, rfl⟩
        · rw [hcb] at hct
          have hst := i32_step R (s[j].toNat % 64) hRb (Nat.mod_lt _ (by decide))
          have HS : Hid (nxtGo s.data.toList 1 1 r0 = nxtGo s.data.toList (2 - (j + 1)) (j + 1) (R * 64 + s[j].toNat % 64)) := by
            rw [Hid, HG.out, show 2 - j = (2 - (j + 1)) + 1 from by omega, nxtGo, ← HB.out, if_pos (of_decide_eq_true hcb)]
          have HRb : Hid ((R * 64 + s[j].toNat % 64) * 64 ^ (2 - (j + 1)) < 2097152) := by
            rw [show 2 - j = (2 - (j + 1)) + 1 from by omega, Nat.pow_succ] at hR
            have hb1 : s[j].toNat % 64 < 64 := Nat.mod_lt _ (by decide)
            obtain ⟨q, hq⟩ : ∃ q, 64 ^ (2 - (j + 1)) = q := ⟨_, rfl⟩
            have hpow : (64 ^ (2 - (j + 1)) = 1 ∨ 64 ^ (2 - (j + 1)) = 64 ∨ 64 ^ (2 - (j + 1)) = 4096) := by
              rcases (show 2 - (j + 1) = 0 ∨ 2 - (j + 1) = 1 ∨ 2 - (j + 1) = 2 from by omega) with e | e | e <;> rw [e] <;> simp
            rcases hpow with e | e | e <;> rw [e] at hR ⊢ <;> rw [Hid] <;> omega
          go_wp2
          go_round
          case rel => exact ⟨j + 1, R * 64 + s[j].toNat % 64, by omega, by omega, by go_num, by go_num, HRb.out, HS.out⟩
          case measure => simp [intOf]; omega
      · have HF : Hid (nxtEnd 128 2 R = (X1, X2)) := by
          have h1 := HE.out
          rw [HG.out, show 2 - j = 0 from by omega, nxtGo] at h1
          exact h1
        by_cases hbad : R < 128 ∨ 1114111 < R ∨ (55296 ≤ R ∧ R < 57344)
        · have HZ : Hid (X1 = 0 ∧ X2 = 0) := by
            have h1 := HF.out
            rw [nxtEnd, if_pos hbad] at h1
            cases h1; exact ⟨rfl, rfl⟩
          have HBad : Hid (R < 128 ∨ 1114111 < R ∨ (55296 ≤ R ∧ R < 57344)) := hbad
          clear hbad
          go_wp2
          all_goals first | (go_ret2; obtain ⟨e1, e2⟩ := HZ.out; subst e1 e2; exact ⟨rfl, rfl⟩) | (exfalso; have := HBad.out; omega)
        · have HZ : Hid (X1 = R ∧ X2 = 2) := by
            have h1 := HF.out
            rw [nxtEnd, if_neg hbad] at h1
            cases h1; exact ⟨rfl, rfl⟩
          have HBad : Hid (¬ (R < 128 ∨ 1114111 < R ∨ (55296 ≤ R ∧ R < 57344))) := hbad
          clear hbad
          go_wp2
          all_goals first | (go_ret2; obtain ⟨e1, e2⟩ := HZ.out; subst e1 e2; exact ⟨rfl, rfl⟩) | (exfalso; have := HBad.out; omega)

set_option maxRecDepth 100000 in
set_option maxHeartbeats 1000000 in
theorem ref_next3 (s : ByteArray) (hs : s.size ≤ 9223372036854775807) (h0 : 0 < s.size) (w : World) (c1 : 224 ≤ s[0].toNat) (c2 : s[0].toNat < 240) :
    Calls Try.prog 76 #[.string s] w fun e w' => e = .returned (.tuple #[.int .i32 (nxtTail s.data.toList 3 (s[0].toNat % 16) 2048).1, .int .i64 (nxtTail s.data.toList 3 (s[0].toNat % 16) 2048).2]) ∧ w' = w := by
  have hsl : s.data.toList.length = s.size := by simp
  have hr0 : s[0].toNat % 16 < 16 := Nat.mod_lt _ (by decide)
  generalize hx : nxtTail s.data.toList 3 (s[0].toNat % 16) 2048 = X
  have HX : Hid (nxtTail s.data.toList 3 (s[0].toNat % 16) 2048 = X) := hx
  clear hx
  obtain ⟨X1, X2⟩ := X
  by_cases hlen : s.size < 3
  · have HE : Hid (X1 = 0 ∧ X2 = 0) := by
      have := HX.out
      rw [nxtTail, if_pos (by omega)] at this
      cases this; exact ⟨rfl, rfl⟩
    go_enter Try.func76, Try.ntmps76
    go_wp2_with fail
    go_ret2
    obtain ⟨e1, e2⟩ := HE.out
    subst e1 e2
    exact ⟨rfl, rfl⟩
  · have HE : Hid ((match nxtGo s.data.toList 2 1 (s[0].toNat % 16) with | none => (0, 0) | some x => nxtEnd 2048 3 x) = (X1, X2)) := by
      have := HX.out
      rw [nxtTail, if_neg (by omega)] at this
      exact this
    generalize hr : s[0].toNat % 16 = r0 at *
    have HR : Hid (s[0].toNat % 16 = r0) := hr
    clear hr
    have hc128 : ¬ (s[0].toNat : Int) < 128 := by omega
    go_enter Try.func76, Try.ntmps76
    go_wp2_with fail
    go_loop [7, 8] (fun r i => ∃ j R : Nat, 1 ≤ j ∧ j ≤ 3 ∧ i = .int .i64 j ∧ r = .int .i32 R ∧ R * 64 ^ (3 - j) < 2097152 ∧ nxtGo s.data.toList 2 1 r0 = nxtGo s.data.toList (3 - j) j R) (fun _ i => 3 - (intOf i).toNat)
    case atStart => exact ⟨1, s[0].toNat % 16, by omega, by omega, rfl, by go_num, by simp; omega, by rw [HR.out]⟩
    case round =>
      obtain ⟨j, R, hj1, hjn, rfl, rfl, hR, he⟩ := hrel
      have HG : Hid (nxtGo s.data.toList 2 1 r0 = nxtGo s.data.toList (3 - j) j R) := he
      clear he
      by_cases hlt : j < 3
      · have hjs : j < s.size := by omega
        have hct := cont_test s[j]
        have hbj := s[j].toNat_lt
        have HB : Hid (s[j] = s.data.toList.getD j 0) := byte_at s j hjs
        have hRb : R < 32768 := by
          have : 64 ≤ 64 ^ (3 - j) := by
            have := Nat.pow_le_pow_right (show 0 < 64 by decide) (show 1 ≤ 3 - j by omega)
            simpa using this
          have := Nat.mul_le_mul_left R this
          omega
        cases hcb : decide (128 ≤ s[j].toNat ∧ s[j].toNat < 192)
        · rw [hcb] at hct
          have HF : Hid (X1 = 0 ∧ X2 = 0) := by
            have h1 := HE.out
            rw [HG.out, show 3 - j = (3 - j - 1) + 1 from by omega, nxtGo, ← HB.out, if_neg (of_decide_eq_false hcb)] at h1
            cases h1; exact ⟨rfl, rfl⟩
          clear hcb
          go_wp2
          go_ret2
          obtain ⟨e1, e2⟩ := HF.out
          subst e1 e2
          exact ⟨rfl, rfl⟩
        · rw [hcb] at hct
          have hst := i32_step R (s[j].toNat % 64) hRb (Nat.mod_lt _ (by decide))
          have HS : Hid (nxtGo s.data.toList 2 1 r0 = nxtGo s.data.toList (3 - (j + 1)) (j + 1) (R * 64 + s[j].toNat % 64)) := by
            rw [Hid, HG.out, show 3 - j = (3 - (j + 1)) + 1 from by omega, nxtGo, ← HB.out, if_pos (of_decide_eq_true hcb)]
          have HRb : Hid ((R * 64 + s[j].toNat % 64) * 64 ^ (3 - (j + 1)) < 2097152) := by
            rw [show 3 - j = (3 - (j + 1)) + 1 from by omega, Nat.pow_succ] at hR
            have hb1 : s[j].toNat % 64 < 64 := Nat.mod_lt _ (by decide)
            obtain ⟨q, hq⟩ : ∃ q, 64 ^ (3 - (j + 1)) = q := ⟨_, rfl⟩
            have hpow : (64 ^ (3 - (j + 1)) = 1 ∨ 64 ^ (3 - (j + 1)) = 64 ∨ 64 ^ (3 - (j + 1)) = 4096) := by
              rcases (show 3 - (j + 1) = 0 ∨ 3 - (j + 1) = 1 ∨ 3 - (j + 1) = 2 from by omega) with e | e | e <;> rw [e] <;> simp
            rcases hpow with e | e | e <;> rw [e] at hR ⊢ <;> rw [Hid] <;> omega
          go_wp2
          go_round
          case rel => exact ⟨j + 1, R * 64 + s[j].toNat % 64, by omega, by omega, by go_num, by go_num, HRb.out, HS.out⟩
          case measure => simp [intOf]; omega
      · have HF : Hid (nxtEnd 2048 3 R = (X1, X2)) := by
          have h1 := HE.out
          rw [HG.out, show 3 - j = 0 from by omega, nxtGo] at h1
          exact h1
        by_cases hbad : R < 2048 ∨ 1114111 < R ∨ (55296 ≤ R ∧ R < 57344)
        · have HZ : Hid (X1 = 0 ∧ X2 = 0) := by
            have h1 := HF.out
            rw [nxtEnd, if_pos hbad] at h1
            cases h1; exact ⟨rfl, rfl⟩
          have HBad : Hid (R < 2048 ∨ 1114111 < R ∨ (55296 ≤ R ∧ R < 57344)) := hbad
          clear hbad
          go_wp2
          all_goals first | (go_ret2; obtain ⟨e1, e2⟩ := HZ.out; subst e1 e2; exact ⟨rfl, rfl⟩) | (exfalso; have := HBad.out; omega)
        · have HZ : Hid (X1 = R ∧ X2 = 3) := by
            have h1 := HF.out
            rw [nxtEnd, if_neg hbad] at h1
            cases h1; exact ⟨rfl, rfl⟩
          have HBad : Hid (¬ (R < 2048 ∨ 1114111 < R ∨ (55296 ≤ R ∧ R < 57344))) := hbad
          clear hbad
          go_wp2
          all_goals first | (go_ret2; obtain ⟨e1, e2⟩ := HZ.out; subst e1 e2; exact ⟨rfl, rfl⟩) | (exfalso; have := HBad.out; omega)

set_option maxRecDepth 100000 in
set_option maxHeartbeats 1000000 in
theorem ref_next4 (s : ByteArray) (hs : s.size ≤ 9223372036854775807) (h0 : 0 < s.size) (w : World) (c1 : 240 ≤ s[0].toNat) (c2 : s[0].toNat < 245) :
    Calls Try.prog 76 #[.string s] w fun e w' => e = .returned (.tuple #[.int .i32 (nxtTail s.data.toList 4 (s[0].toNat % 8) 65536).1, .int .i64 (nxtTail s.data.toList 4 (s[0].toNat % 8) 65536).2]) ∧ w' = w := by
  have hsl : s.data.toList.length = s.size := by simp
  have hr0 : s[0].toNat % 8 < 8 := Nat.mod_lt _ (by decide)
  generalize hx : nxtTail s.data.toList 4 (s[0].toNat % 8) 65536 = X
  have HX : Hid (nxtTail s.data.toList 4 (s[0].toNat % 8) 65536 = X) := hx
  clear hx
  obtain ⟨X1, X2⟩ := X
  by_cases hlen : s.size < 4
  · have HE : Hid (X1 = 0 ∧ X2 = 0) := by
      have := HX.out
      rw [nxtTail, if_pos (by omega)] at this
      cases this; exact ⟨rfl, rfl⟩
    go_enter Try.func76, Try.ntmps76
    go_wp2_with fail
    go_ret2
    obtain ⟨e1, e2⟩ := HE.out
    subst e1 e2
    exact ⟨rfl, rfl⟩
  · have HE : Hid ((match nxtGo s.data.toList 3 1 (s[0].toNat % 8) with | none => (0, 0) | some x => nxtEnd 65536 4 x) = (X1, X2)) := by
      have := HX.out
      rw [nxtTail, if_neg (by omega)] at this
      exact this
    generalize hr : s[0].toNat % 8 = r0 at *
    have HR : Hid (s[0].toNat % 8 = r0) := hr
    clear hr
    have hc128 : ¬ (s[0].toNat : Int) < 128 := by omega
    go_enter Try.func76, Try.ntmps76
    go_wp2_with fail
    go_loop [7, 8] (fun r i => ∃ j R : Nat, 1 ≤ j ∧ j ≤ 4 ∧ i = .int .i64 j ∧ r = .int .i32 R ∧ R * 64 ^ (4 - j) < 2097152 ∧ nxtGo s.data.toList 3 1 r0 = nxtGo s.data.toList (4 - j) j R) (fun _ i => 4 - (intOf i).toNat)
    case atStart => exact ⟨1, s[0].toNat % 8, by omega, by omega, rfl, by go_num, by simp; omega, by rw [HR.out]⟩
    case round =>
      obtain ⟨j, R, hj1, hjn, rfl, rfl, hR, he⟩ := hrel
      have HG : Hid (nxtGo s.data.toList 3 1 r0 = nxtGo s.data.toList (4 - j) j R) := he
      clear he
      by_cases hlt : j < 4
      · have hjs : j < s.size := by omega
        have hct := cont_test s[j]
        have hbj := s[j].toNat_lt
        have HB : Hid (s[j] = s.data.toList.getD j 0) := byte_at s j hjs
        have hRb : R < 32768 := by
          have : 64 ≤ 64 ^ (4 - j) := by
            have := Nat.pow_le_pow_right (show 0 < 64 by decide) (show 1 ≤ 4 - j by omega)
            simpa using this
          have := Nat.mul_le_mul_left R this
          omega
        cases hcb : decide (128 ≤ s[j].toNat ∧ s[j].toNat < 192)
        · rw [hcb] at hct
          have HF : Hid (X1 = 0 ∧ X2 = 0) := by
            have h1 := HE.out
            rw [HG.out, show 4 - j = (4 - j - 1) + 1 from by omega, nxtGo, ← HB.out, if_neg (of_decide_eq_false hcb)] at h1
            cases h1; exact ⟨rfl, rfl⟩
          clear hcb
          go_wp2
          go_ret2
          obtain ⟨e1, e2⟩ := HF.out
          subst e1 e2
          exact ⟨rfl, rfl⟩
        · rw [hcb] at hct
          have hst := i32_step R (s[j].toNat % 64) hRb (Nat.mod_lt _ (by decide))
          have HS : Hid (nxtGo s.data.toList 3 1 r0 = nxtGo s.data.toList (4 - (j + 1)) (j + 1) (R * 64 + s[j].toNat % 64)) := by
            rw [Hid, HG.out, show 4 - j = (4 - (j + 1)) + 1 from by omega, nxtGo, ← HB.out, if_pos (of_decide_eq_true hcb)]
          have HRb : Hid ((R * 64 + s[j].toNat % 64) * 64 ^ (4 - (j + 1)) < 2097152) := by
            rw [show 4 - j = (4 - (j + 1)) + 1 from by omega, Nat.pow_succ] at hR
            have hb1 : s[j].toNat % 64 < 64 := Nat.mod_lt _ (by decide)
            obtain ⟨q, hq⟩ : ∃ q, 64 ^ (4 - (j + 1)) = q := ⟨_, rfl⟩
            have hpow : (64 ^ (4 - (j + 1)) = 1 ∨ 64 ^ (4 - (j + 1)) = 64 ∨ 64 ^ (4 - (j + 1)) = 4096) := by
              rcases (show 4 - (j + 1) = 0 ∨ 4 - (j + 1) = 1 ∨ 4 - (j + 1) = 2 from by omega) with e | e | e <;> rw [e] <;> simp
            rcases hpow with e | e | e <;> rw [e] at hR ⊢ <;> rw [Hid] <;> omega
          go_wp2
          go_round
          case rel => exact ⟨j + 1, R * 64 + s[j].toNat % 64, by omega, by omega, by go_num, by go_num, HRb.out, HS.out⟩
          case measure => simp [intOf]; omega
      · have HF : Hid (nxtEnd 65536 4 R = (X1, X2)) := by
          have h1 := HE.out
          rw [HG.out, show 4 - j = 0 from by omega, nxtGo] at h1
          exact h1
        by_cases hbad : R < 65536 ∨ 1114111 < R ∨ (55296 ≤ R ∧ R < 57344)
        · have HZ : Hid (X1 = 0 ∧ X2 = 0) := by
            have h1 := HF.out
            rw [nxtEnd, if_pos hbad] at h1
            cases h1; exact ⟨rfl, rfl⟩
          have HBad : Hid (R < 65536 ∨ 1114111 < R ∨ (55296 ≤ R ∧ R < 57344)) := hbad
          clear hbad
          go_wp2
          all_goals first | (go_ret2; obtain ⟨e1, e2⟩ := HZ.out; subst e1 e2; exact ⟨rfl, rfl⟩) | (exfalso; have := HBad.out; omega)
        · have HZ : Hid (X1 = R ∧ X2 = 4) := by
            have h1 := HF.out
            rw [nxtEnd, if_neg hbad] at h1
            cases h1; exact ⟨rfl, rfl⟩
          have HBad : Hid (¬ (R < 65536 ∨ 1114111 < R ∨ (55296 ≤ R ∧ R < 57344))) := hbad
          clear hbad
          go_wp2
          all_goals first | (go_ret2; obtain ⟨e1, e2⟩ := HZ.out; subst e1 e2; exact ⟨rfl, rfl⟩) | (exfalso; have := HBad.out; omega)

theorem at0 (s : ByteArray) (h0 : 0 < s.size) : s[0].toNat = (s.data.toList.getD 0 0).toNat := by rw [byte_at s 0 h0]

set_option maxRecDepth 100000 in
set_option maxHeartbeats 1000000 in
theorem ref_next (s : ByteArray) (hs : s.size ≤ 9223372036854775807) (h0 : 0 < s.size) (w : World) :
    Calls Try.prog 76 #[.string s] w fun e w' => e = .returned (.tuple #[.int .i32 (nxt s.data.toList).1, .int .i64 (nxt s.data.toList).2]) ∧ w' = w := by
  have ha := at0 s h0
  by_cases h1 : s[0].toNat < 128
  · have HE : Hid (nxt s.data.toList = (s[0].toNat, 1)) := by rw [Hid, nxt, ← ha, if_pos h1]
    generalize nxt s.data.toList = X at *
    obtain ⟨X1, X2⟩ := X
    clear ha
    go_enter Try.func76, Try.ntmps76
    go_wp2_with fail
    go_ret2
    have h := HE.out
    cases h
    exact ⟨rfl, rfl⟩
  by_cases h2 : 194 ≤ s[0].toNat ∧ s[0].toNat < 224
  · have := ref_next2 s hs h0 w h2.1 h2.2
    rw [nxt, ← ha, if_neg h1, if_pos h2]; exact this
  by_cases h3 : 224 ≤ s[0].toNat ∧ s[0].toNat < 240
  · have := ref_next3 s hs h0 w h3.1 h3.2
    rw [nxt, ← ha, if_neg h1, if_neg h2, if_pos h3]; exact this
  by_cases h4 : 240 ≤ s[0].toNat ∧ s[0].toNat < 245
  · have := ref_next4 s hs h0 w h4.1 h4.2
    rw [nxt, ← ha, if_neg h1, if_neg h2, if_neg h3, if_pos h4]; exact this
  · have HE : Hid (nxt s.data.toList = (0, 0)) := by rw [Hid, nxt, ← ha, if_neg h1, if_neg h2, if_neg h3, if_neg h4]
    have hb := s[0].toNat_lt
    have hcl : (128 ≤ s[0].toNat ∧ s[0].toNat < 194) ∨ 245 ≤ s[0].toNat := by omega
    generalize nxt s.data.toList = X at *
    obtain ⟨X1, X2⟩ := X
    clear ha h1 h2 h3 h4
    rcases hcl with ⟨c1, c2⟩ | c1
    all_goals
      go_enter Try.func76, Try.ntmps76
      go_wp2_with fail
      go_ret2
      have h := HE.out
      cases h
      exact ⟨rfl, rfl⟩
end Go.Proofs.Ytegldlfbmaapiaa

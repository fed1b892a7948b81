/- The contracts of disk's Dead, Used, Room, Cut, spend, isName. -/
import Derived.Test.YtfmpbkdmcgkeoaaCore
namespace Go.Proofs.Ytfmpbkdmcgkeoaa
open Go.RowKit Go.Maps
set_option linter.unusedVariables false

section
variable {w : World} {d m n : Nat} {es : List (Key × Fl)} {room power : Int}
theorem Core.c0 (h : Core w d m n es room power) : w.cell? ⟨d, 0, none⟩ = some (.map (some m)) := by rw [cell_of_block h.cells]; rfl
theorem Core.c1 (h : Core w d m n es room power) : w.cell? ⟨d, 1, none⟩ = some (.int .i64 (used es : Int)) := by rw [cell_of_block h.cells]; rfl
theorem Core.c2 (h : Core w d m n es room power) : w.cell? ⟨d, 2, none⟩ = some (.int .i64 room) := by rw [cell_of_block h.cells]; rfl
theorem Core.c3 (h : Core w d m n es room power) : w.cell? ⟨d, 3, none⟩ = some (.int .i64 power) := by rw [cell_of_block h.cells]; rfl
theorem Core.free (h : Core w d m n es room power) (i : Nat) : w.frozen? ⟨d, i, none⟩ = false := free_of_block h.cells

/-- The room set. -/
theorem Core.setRoom (h : Core w d m n es room power) {r : Int} (h0 : 0 ≤ r) (h1 : r ≤ 9223372036854775807) : Core (w.setCell ⟨d, 2, none⟩ (.int .i64 r)) d m n es r power :=
  ⟨by rw [heap_setCell_same _ _ _ _ h.cells]; rfl, h.owns.setCell h.ne _, h.rising, h.good, h0, h1, h.pow0, h.pow1, h.keys⟩
theorem Core.setPower (h : Core w d m n es room power) {r : Int} (h0 : -9223372036854775808 ≤ r) (h1 : r ≤ 9223372036854775807) : Core (w.setCell ⟨d, 3, none⟩ (.int .i64 r)) d m n es room r :=
  ⟨by rw [heap_setCell_same _ _ _ _ h.cells]; rfl, h.owns.setCell h.ne _, h.rising, h.good, h.room0, h.room1, h0, h1, h.keys⟩

set_option maxHeartbeats 400000 in
theorem dead_any (h : Core w d m n es room power) :
    Calls Try.prog 34 #[.pointer (some ⟨d, 0, none⟩)] w fun e w' => e = .returned (.bool (decide (power = 0))) ∧ w' = w := by
  have c3 := h.c3
  clear h
  by_cases e : power = 0
  · subst e
    go_enter Try.func34, Try.ntmps34
    go_wp2_with fail
    go_ret
    exact ⟨rfl, rfl⟩
  · rw [decide_eq_false e]
    have e2 : (power == 0) = false := by simpa using e
    go_enter Try.func34, Try.ntmps34
    go_wp2_with fail
    go_ret
    first | exact ⟨rfl, rfl⟩ | exact ⟨by simp [e2], rfl⟩

set_option maxHeartbeats 400000 in
theorem used_any (h : Core w d m n es room power) :
    Calls Try.prog 33 #[.pointer (some ⟨d, 0, none⟩)] w fun e w' => e = .returned (.int .i64 (used es : Int)) ∧ w' = w := by
  have c1 := h.c1
  clear h
  go_enter Try.func33, Try.ntmps33
  go_wp2_with fail
  go_ret
  exact ⟨rfl, rfl⟩

/-- A call's power that is spent. -/
def spent (power : Int) : Int := if 0 < power then power - 1 else power

set_option maxHeartbeats 400000 in
theorem spend_any (h : Core w d m n es room power) :
    Calls Try.prog 37 #[.pointer (some ⟨d, 0, none⟩)] w fun e w' => e = .returned (.tuple #[]) ∧ Core w' d m n es room (spent power) ∧ Touch (fun k => k = d) w w' := by
  have c3 := h.c3
  have f3 := h.free 3
  have p0 := h.pow0
  have p1 := h.pow1
  by_cases e : 0 < power
  · have HQ : Hid (Core (w.setCell ⟨d, 3, none⟩ (.int .i64 (power - 1))) d m n es room (spent power) ∧ Touch (fun k => k = d) w (w.setCell ⟨d, 3, none⟩ (.int .i64 (power - 1)))) := by
      unfold spent; rw [if_pos e]
      exact ⟨h.setPower (by omega) (by omega), (Touch.refl _ w).setCell _ _ fun _ => rfl⟩
    clear h
    go_enter Try.func37, Try.ntmps37
    go_wp2_with fail
    go_end0
    exact ⟨rfl, HQ.out⟩
  · have HQ : Hid (Core w d m n es room (spent power) ∧ Touch (fun k => k = d) w w) := by
      unfold spent; rw [if_neg e]
      exact ⟨h, Touch.refl _ w⟩
    clear h
    go_enter Try.func37, Try.ntmps37
    go_wp2_with fail
    go_end0
    exact ⟨rfl, HQ.out⟩

set_option maxHeartbeats 400000 in
theorem room_any (h : Core w d m n es room power) (r : Int) (hr : -9223372036854775808 ≤ r ∧ r ≤ 9223372036854775807) :
    Calls Try.prog 23 #[.pointer (some ⟨d, 0, none⟩), .int .i64 r] w fun e w' => e = .returned (.tuple #[]) ∧ Core w' d m n es (max r 0) power ∧ Touch (fun k => k = d) w w' := by
  have c2 := h.c2
  have f2 := h.free 2
  by_cases e : 0 ≤ r
  · have em : max r 0 = r := by omega
    rw [em]
    have HQ : Hid (Core (w.setCell ⟨d, 2, none⟩ (.int .i64 r)) d m n es r power ∧ Touch (fun k => k = d) w (w.setCell ⟨d, 2, none⟩ (.int .i64 r))) := by
      exact ⟨h.setRoom (by omega) (by omega), (Touch.refl _ w).setCell _ _ fun _ => rfl⟩
    clear h em
    go_enter Try.func23, Try.ntmps23
    go_wp2_with fail
    go_end0
    exact ⟨rfl, HQ.out⟩
  · have em : max r 0 = 0 := by omega
    rw [em]
    have HQ : Hid (Core (w.setCell ⟨d, 2, none⟩ (.int .i64 0)) d m n es 0 power ∧ Touch (fun k => k = d) w (w.setCell ⟨d, 2, none⟩ (.int .i64 0))) := by
      exact ⟨h.setRoom (by omega) (by omega), (Touch.refl _ w).setCell _ _ fun _ => rfl⟩
    clear h em
    go_enter Try.func23, Try.ntmps23
    go_wp2_with fail
    go_end0
    exact ⟨rfl, HQ.out⟩

/-- The power behind Cut. -/
def cutTo (power n : Int) : Int := if power = 0 then 0 else n

set_option maxHeartbeats 400000 in
theorem cut_any (h : Core w d m n es room power) (r : Int) (hr : -9223372036854775808 ≤ r ∧ r ≤ 9223372036854775807) :
    Calls Try.prog 25 #[.pointer (some ⟨d, 0, none⟩), .int .i64 r] w fun e w' => e = .returned (.tuple #[]) ∧ Core w' d m n es room (cutTo power r) ∧ Touch (fun k => k = d) w w' := by
  have c3 := h.c3
  have f3 := h.free 3
  have HD : Hid (Calls Try.prog 34 #[.pointer (some ⟨d, 0, none⟩)] w fun e w' => e = .returned (.bool (decide (power = 0))) ∧ w' = w) := dead_any h
  by_cases e : power = 0
  · have HQ : Hid (Core w d m n es room (cutTo power r) ∧ Touch (fun k => k = d) w w) := by
      unfold cutTo; rw [if_pos e]
      exact ⟨e ▸ h, Touch.refl _ w⟩
    rw [decide_eq_true e] at HD
    clear h c3
    go_enter Try.func25, Try.ntmps25
    go_wp2_with fail
    refine HD.out.mono ?_
    rintro e1 w1 ⟨rfl, hw⟩
    rw [hw]; clear hw
    go_wp2_with fail
    go_end0
    exact ⟨rfl, HQ.out⟩
  · have HQ : Hid (Core (w.setCell ⟨d, 3, none⟩ (.int .i64 r)) d m n es room (cutTo power r) ∧ Touch (fun k => k = d) w (w.setCell ⟨d, 3, none⟩ (.int .i64 r))) := by
      unfold cutTo; rw [if_neg e]
      exact ⟨h.setPower hr.1 hr.2, (Touch.refl _ w).setCell _ _ fun _ => rfl⟩
    rw [decide_eq_false e] at HD
    clear h
    go_enter Try.func25, Try.ntmps25
    go_wp2_with fail
    refine HD.out.mono ?_
    rintro e1 w1 ⟨rfl, hw⟩
    rw [hw]; clear hw
    go_wp2_with fail
    go_end0
    exact ⟨rfl, HQ.out⟩
end

/-- A name: 1 to 32 bytes. -/
def isNm (k : Key) : Bool := decide (1 ≤ k.length ∧ k.length ≤ 32)

set_option maxHeartbeats 400000 in
theorem isName_any (s : ByteArray) (w : World) (hs : s.size ≤ maxLen) :
    Calls Try.prog 35 #[.string s] w fun e w' => e = .returned (.bool (isNm s.data.toList)) ∧ w' = w := by
  have hz : s.data.toList.length = s.size := by rw [Array.length_toList]; rfl
  unfold maxLen at hs
  unfold isNm
  rw [hz]
  by_cases h1 : 1 ≤ s.size
  · by_cases h2 : s.size ≤ 32
    · rw [decide_eq_true ⟨h1, h2⟩]
      clear hz
      go_enter Try.func35, Try.ntmps35
      go_wp2_with fail
      go_ret
      exact ⟨by simp; omega, rfl⟩
    · rw [decide_eq_false (fun h => h2 h.2)]
      clear hz
      go_enter Try.func35, Try.ntmps35
      go_wp2_with fail
      go_ret
      exact ⟨by simp; omega, rfl⟩
  · rw [decide_eq_false (fun h => h1 h.1)]
    clear hz
    go_enter Try.func35, Try.ntmps35
    go_wp2_with fail
    go_ret
    exact ⟨rfl, rfl⟩
end Go.Proofs.Ytfmpbkdmcgkeoaa

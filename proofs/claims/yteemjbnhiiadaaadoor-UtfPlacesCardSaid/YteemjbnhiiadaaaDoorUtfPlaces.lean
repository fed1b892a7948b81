/- The statement UtfPlaces, as a contract. -/
import Derived.Test.YteemjbnhiiadaaaDoorKnown3
namespace Go.Proofs.YteemjbnhiiadaaaDoor
open Go.RowKit
set_option linter.unusedVariables false
set_option maxRecDepth 100000

theorem back16 {l : List UInt8} {n : Int} (h : (ans16 l n).2 = 0) : ansP l (ans16 l n).1 = (n, 0) := by
  cases hr : runesOf l with
  | none => rw [ans16_none n hr] at h; simp at h
  | some rs =>
    cases hf : find16 rs n with
    | none => unfold ans16 at h; rw [hr] at h; simp only at h; rw [hf] at h; simp at h
    | some k =>
      obtain ⟨hk, he⟩ := find16_is hf
      rw [ans16_at hr hk he, ansP_at hr (by simp only; omega) (by simp only; omega)]
      simp only [Int.toNat_natCast, he]
theorem backP {l : List UInt8} {n : Int} (h : (ansP l n).2 = 0) : ans16 l (ansP l n).1 = (n, 0) := by
  cases hr : runesOf l with
  | none => rw [ansP_none n hr] at h; simp at h
  | some rs =>
    by_cases hn : n < 0 ∨ (rs.length : Int) < n
    · rw [ansP_no hr hn] at h; simp at h
    · rw [ansP_at hr (by omega) (by omega)]
      have := ans16_at hr (k := n.toNat) (n := (sum16 (rs.take n.toNat) : Int)) (by omega) rfl
      simp only
      rw [this, Int.toNat_of_nonneg (by omega)]

set_option maxHeartbeats 2000000 in
theorem utfPlaces_any (s : ByteArray) (hs : s.size ≤ 9223372036854775807) (n : Int) (hn : -9223372036854775808 ≤ n ∧ n ≤ 9223372036854775807) (w : World) (hT : TabsU w) : Calls Tryd.prog 5 #[.string s, .int .i64 n] w fun e w' => e = .returned (.bool true) ∧ Touch (fun _ => False) w w' := by
  have HK : Hid (Calls Tryd.prog 9 #[] w fun e w' => e = .returned (.bool true) ∧ Touch (fun _ => False) w w') := known_any w hT
  have HT : Hid (TabsU w) := hT
  clear hT
  by_cases hz : 2000 < s.size
  · go_enter Tryd.func5, Tryd.ntmps5
    go_wp2_with fail
    refine HK.out.mono ?_
    rintro e w1 ⟨rfl, t1⟩
    go_wp2_with fail
    go_ret
    exact ⟨rfl, t1⟩
  have P1 : Hid (∀ w, TabsU w → Calls Tryd.prog 21 #[.string s, .int .i64 n] w fun e w' => e = .returned (.tuple #[.int .i64 (ans16 s.data.toList n).1, .int .i64 (ans16 s.data.toList n).2]) ∧ Touch (fun _ => False) w w') := fun w h => utf_place16 s (by omega) n w h
  have P2 : Hid (∀ w, Calls Tryd.prog 22 #[.string s, .int .i64 n] w fun e w' => e = .returned (.tuple #[.int .i64 (ans16 s.data.toList n).1, .int .i64 (ans16 s.data.toList n).2]) ∧ Touch (fun _ => False) w w') := fun w => ref_place16 s (by omega) n w
  have P3 : Hid (∀ w, TabsU w → Calls Tryd.prog 23 #[.string s, .int .i64 n] w fun e w' => e = .returned (.tuple #[.int .i64 (ansP s.data.toList n).1, .int .i64 (ansP s.data.toList n).2]) ∧ Touch (fun _ => False) w w') := fun w h => utf_place s (by omega) n w h
  have P4 : Hid (∀ w, Calls Tryd.prog 24 #[.string s, .int .i64 n] w fun e w' => e = .returned (.tuple #[.int .i64 (ansP s.data.toList n).1, .int .i64 (ansP s.data.toList n).2]) ∧ Touch (fun _ => False) w w') := fun w => ref_placeOf s (by omega) n w
  have P5 : Hid ((ans16 s.data.toList n).2 = 0 → ∀ w, TabsU w → Calls Tryd.prog 23 #[.string s, .int .i64 (ans16 s.data.toList n).1] w fun e w' => e = .returned (.tuple #[.int .i64 n, .int .i64 0]) ∧ Touch (fun _ => False) w w') := fun h0 w h => by
    have := utf_place s (by omega) (ans16 s.data.toList n).1 w h
    rwa [back16 h0] at this
  have P6 : Hid ((ansP s.data.toList n).2 = 0 → ∀ w, TabsU w → Calls Tryd.prog 21 #[.string s, .int .i64 (ansP s.data.toList n).1] w fun e w' => e = .returned (.tuple #[.int .i64 n, .int .i64 0]) ∧ Touch (fun _ => False) w w') := fun h0 w h => by
    have := utf_place16 s (by omega) (ansP s.data.toList n).1 w h
    rwa [backP h0] at this
  generalize ans16 s.data.toList n = X at *
  generalize ansP s.data.toList n = Y at *
  obtain ⟨a, e⟩ := X
  obtain ⟨c, g⟩ := Y
  simp only at *
  go_enter Tryd.func5, Tryd.ntmps5
  go_wp2_with fail
  refine HK.out.mono ?_
  rintro _ w1 ⟨rfl, h1⟩
  go_wp2_with fail
  refine (P1.out _ (HT.out.keep h1)).mono ?_
  rintro _ w2 ⟨rfl, t1⟩
  have h2 := h1.trans t1
  clear h1 t1
  go_wp2_with fail
  refine (P2.out _).mono ?_
  rintro _ w3 ⟨rfl, t1⟩
  have h3 := h2.trans t1
  clear h2 t1
  go_wp2_with fail
  refine (P3.out _ (HT.out.keep h3)).mono ?_
  rintro _ w4 ⟨rfl, t1⟩
  have h4 := h3.trans t1
  clear h3 t1
  go_wp2_with fail
  refine (P4.out _).mono ?_
  rintro _ w5 ⟨rfl, t1⟩
  have h5 := h4.trans t1
  clear h4 t1
  by_cases he : e = 0
  · subst he
    go_wp2_with fail
    refine (P5.out (by trivial) _ (HT.out.keep h5)).mono ?_
    rintro _ w6 ⟨rfl, t1⟩
    have h6 := h5.trans t1
    clear h5 t1
    by_cases hg : g = 0
    · subst hg
      go_wp2_with fail
      refine (P6.out (by trivial) _ (HT.out.keep h6)).mono ?_
      rintro _ w7 ⟨rfl, t1⟩
      have h7 := h6.trans t1
      clear h6 t1
      go_wp2_with fail
      go_ret
      exact ⟨rfl, h7⟩
    · have hgb : (g == 0) = false := by rw [beq_eq_false_iff_ne]; exact hg
      go_wp2_with fail
      go_ret
      exact ⟨rfl, h6⟩
  · have heb : (e == 0) = false := by rw [beq_eq_false_iff_ne]; exact he
    by_cases hg : g = 0
    · subst hg
      go_wp2_with fail
      refine (P6.out (by trivial) _ (HT.out.keep h5)).mono ?_
      rintro _ w7 ⟨rfl, t1⟩
      have h7 := h5.trans t1
      clear h5 t1
      go_wp2_with fail
      go_ret
      exact ⟨rfl, h7⟩
    · have hgb : (g == 0) = false := by rw [beq_eq_false_iff_ne]; exact hg
      go_wp2_with fail
      go_ret
      exact ⟨rfl, h5⟩
end Go.Proofs.YteemjbnhiiadaaaDoor

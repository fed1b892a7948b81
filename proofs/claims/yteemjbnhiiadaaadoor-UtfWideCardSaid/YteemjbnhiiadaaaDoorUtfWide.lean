/- The statement UtfWide, as a contract. -/
import Derived.Test.YteemjbnhiiadaaaDoorKnown3
namespace Go.Proofs.YteemjbnhiiadaaaDoor
open Go.RowKit
set_option linter.unusedVariables false
set_option maxRecDepth 100000

theorem sum_le (rs : List Nat) {j k : Nat} (h : j ≤ k) (hk : k ≤ rs.length) : sum16 (rs.take j) ≤ sum16 (rs.take k) := by
  rcases Nat.lt_or_eq_of_le h with c | c
  · exact Nat.le_of_lt (take_mono rs c hk)
  · rw [c]; exact Nat.le_refl _
/-- The second unit of a pair is no place. -/
theorem no_mid {l : List UInt8} {rs : List Nat} (h : runesOf l = some rs) {k : Nat} (hk : k < rs.length) (hw : 65535 < rs[k]) : ans16 l ((sum16 (rs.take k) : Int) + 1) = (0, 30) := by
  have hst := sum16_take rs k hk
  have hu : un16 rs[k] = 2 := if_pos hw
  refine ans16_no h fun j hj => ?_
  by_cases c : j ≤ k
  · have := sum_le rs c (by omega); omega
  · have := sum_le rs (show k + 1 ≤ j by omega) hj; omega
theorem no_behind {l : List UInt8} {rs : List Nat} (h : runesOf l = some rs) : ans16 l ((sum16 rs : Int) + 1) = (0, 30) := by
  refine ans16_no h fun j hj => ?_
  have := sum_le rs hj (Nat.le_refl _)
  rw [List.take_length] at this
  omega
theorem no_ahead {l : List UInt8} {rs : List Nat} (h : runesOf l = some rs) : ans16 l (-1) = (0, 30) := ans16_no h fun j hj => by omega

set_option maxHeartbeats 4000000 in
theorem utfWide_any (s : ByteArray) (hs : s.size ≤ 9223372036854775807) (w : World) (hT : TabsU w) : Calls Tryd.prog 8 #[.string s] w fun e w' => e = .returned (.bool true) ∧ Touch (fun _ => False) w w' := by
  have HK : Hid (Calls Tryd.prog 9 #[] w fun e w' => e = .returned (.bool true) ∧ Touch (fun _ => False) w w') := known_any w hT
  have HT : Hid (TabsU w) := hT
  clear hT
  by_cases hz : 400 < s.size
  · go_enter Tryd.func8, Tryd.ntmps8
    go_wp2_with fail
    refine HK.out.mono ?_
    rintro e w1 ⟨rfl, t1⟩
    go_wp2_with fail
    go_ret
    exact ⟨rfl, t1⟩
  have C1 : Hid (∀ w, Calls Tryd.prog 11 #[.string s] w fun e w' => e = .returned (.bool (runesOf s.data.toList).isSome) ∧ Touch (fun _ => False) w w') := fun w => ref_check3 s (by omega) w
  have C2 : Hid (∀ w, Calls Tryd.prog 16 #[.string s] w (RunesAny s.data.toList w)) := fun w => ref_runes_any s (by omega) w
  cases hr : runesOf s.data.toList with
  | none =>
    rw [hr] at C1
    clear hr
    go_enter Tryd.func8, Tryd.ntmps8
    go_wp2_with fail
    refine HK.out.mono ?_
    rintro _ w1 ⟨rfl, h1⟩
    go_wp2_with fail
    refine (C1.out _).mono ?_
    rintro _ w2 ⟨rfl, t1⟩
    have h2 := h1.trans t1
    clear h1 t1
    simp only [Option.isSome_none]
    go_wp2_with fail
    go_ret
    exact ⟨rfl, h2⟩
  | some rs =>
    rw [hr] at C1
    have HR : Hid (runesOf s.data.toList = some rs) := hr
    have hln : rs.length ≤ 400 := by have := rsOf_len s.data.toList; rw [rsOf_some hr] at this; simp at this; omega
    have P : Hid (∀ n w, TabsU w → Calls Tryd.prog 21 #[.string s, .int .i64 n] w fun e w' => e = .returned (.tuple #[.int .i64 (ans16 s.data.toList n).1, .int .i64 (ans16 s.data.toList n).2]) ∧ Touch (fun _ => False) w w') := fun n w h => utf_place16 s (by omega) n w h
    clear hr
    go_enter Tryd.func8, Tryd.ntmps8
    go_wp2_with fail
    refine HK.out.mono ?_
    rintro _ w1 ⟨rfl, h1⟩
    go_wp2_with fail
    refine (C1.out _).mono ?_
    rintro _ w2 ⟨rfl, t1⟩
    have h2 := h1.trans t1
    clear h1 t1
    simp only [Option.isSome_some]
    go_wp2_with fail
    refine (C2.out _).mono ?_
    rintro _ w3 ⟨t1, a, c, rfl, hrow⟩
    have h3 := h2.trans t1
    clear h2 t1
    rw [rsOf_some HR.out] at hrow ⊢
    rw [HR.out]
    simp only [Option.isSome_some]
    have hcap := hrow.1
    have hmax := hrow.2.1
    have HRow : Hid (Row w3 a c rs) := hrow
    have H3 : Hid (Touch (fun _ => False) w w3) := h3
    clear hrow h3
    go_wp2_with fail
    go_loopw [5, 6] (fun t i wr => ∃ k : Nat, k ≤ rs.length ∧ i = .int .i64 k ∧ t = .int .i64 (sum16 (rs.take k) : Int) ∧ Touch (fun _ => False) w3 wr) (fun _ i _ => rs.length - (intOf i).toNat)
    case atStart => exact ⟨0, Nat.zero_le _, rfl, rfl, Touch.refl _ _⟩
    case round =>
      obtain ⟨k, hk, rfl, rfl, hTr⟩ := hrel
      have HTr : Hid (Touch (fun _ => False) w3 wr) := hTr
      clear hTr
      have hb := sum16_bd (rs.take k)
      have hb2 : (rs.take k).length ≤ k := List.length_take_le _ _
      have hT0 : sum16 (rs.take k) ≤ 1000 := by omega
      clear hb hb2
      by_cases hlt : k < rs.length
      · obtain ⟨g, hg, hc⟩ := (HRow.out.keep HTr.out).2.2 (fun e => by rw [e] at hlt; simp at hlt)
        subst hg
        have hck := hc k hlt
        have Q1 := P.out (sum16 (rs.take k) : Int) wr (HT.out.keep (H3.out.trans HTr.out))
        rw [ans16_at HR.out (k := k) (by omega) rfl] at Q1
        have HQ1 : Hid (Calls Tryd.prog 21 #[.string s, .int .i64 (sum16 (rs.take k) : Int)] wr fun e w' => e = .returned (.tuple #[.int .i64 (k : Int), .int .i64 0]) ∧ Touch (fun _ => False) wr w') := Q1
        have HS : Hid (sum16 (rs.take (k + 1)) = sum16 (rs.take k) + un16 rs[k]) := sum16_take rs k hlt
        by_cases hw : 65535 < rs[k]
        · have HQ2 : Hid (∀ w', TabsU w' → Calls Tryd.prog 21 #[.string s, .int .i64 ((sum16 (rs.take k) : Int) + 1)] w' fun e w'' => e = .returned (.tuple #[.int .i64 0, .int .i64 30]) ∧ Touch (fun _ => False) w' w'') := fun w' h => by
            have := P.out ((sum16 (rs.take k) : Int) + 1) w' h
            rwa [no_mid HR.out hlt hw] at this
          rw [show un16 rs[k] = 2 from if_pos hw] at HS
          clear Q1 hc
          generalize rs[k] = r at *
          generalize sum16 (rs.take k) = T at *
          go_wp2_with fail
          refine HQ1.out.mono ?_
          rintro e w4 ⟨rfl, t4⟩
          have HT4 : Hid (Touch (fun _ => False) w3 w4) := HTr.out.trans t4
          have hck4 : w4.cell? ⟨g, k, none⟩ = some (.int .i32 (r : Int)) := (t4.cell (World.block_lt_of_cell? _ _ hck) id k).trans hck
          clear t4 hck HQ1 HTr
          go_wp2_with fail
          refine (HQ2.out _ (HT.out.keep (H3.out.trans HT4.out))).mono ?_
          rintro e w5 ⟨rfl, t5⟩
          have HT5 : Hid (Touch (fun _ => False) w3 w5) := HT4.out.trans t5
          clear t5 hck4 HT4 HQ2
          go_wp2_with fail
          go_roundw
          case rel => exact ⟨k + 1, by omega, by go_num, by rw [HS.out]; go_num, HT5.out⟩
          case measure => simp [intOf]; omega
        · rw [show un16 rs[k] = 1 from if_neg hw] at HS
          clear Q1 hc
          generalize rs[k] = r at *
          generalize sum16 (rs.take k) = T at *
          go_wp2_with fail
          refine HQ1.out.mono ?_
          rintro e w4 ⟨rfl, t4⟩
          have HT4 : Hid (Touch (fun _ => False) w3 w4) := HTr.out.trans t4
          have hck4 : w4.cell? ⟨g, k, none⟩ = some (.int .i32 (r : Int)) := (t4.cell (World.block_lt_of_cell? _ _ hck) id k).trans hck
          clear t4 hck HQ1 HTr
          go_wp2_with fail
          go_roundw
          case rel => exact ⟨k + 1, by omega, by go_num, by rw [HS.out]; go_num, HT4.out⟩
          case measure => simp [intOf]; omega
      · have hke : k = rs.length := by omega
        subst hke
        rw [List.take_length] at *
        have HQ1 : Hid (∀ w', TabsU w' → Calls Tryd.prog 21 #[.string s, .int .i64 (sum16 rs : Int)] w' fun e w'' => e = .returned (.tuple #[.int .i64 (rs.length : Int), .int .i64 0]) ∧ Touch (fun _ => False) w' w'') := fun w' h => by
          have := P.out (sum16 rs : Int) w' h
          rwa [ans16_at HR.out (k := rs.length) (Nat.le_refl _) (by rw [List.take_length])] at this
        have HQ2 : Hid (∀ w', TabsU w' → Calls Tryd.prog 21 #[.string s, .int .i64 ((sum16 rs : Int) + 1)] w' fun e w'' => e = .returned (.tuple #[.int .i64 0, .int .i64 30]) ∧ Touch (fun _ => False) w' w'') := fun w' h => by
          have := P.out ((sum16 rs : Int) + 1) w' h
          rwa [no_behind HR.out] at this
        have HQ3 : Hid (∀ w', TabsU w' → Calls Tryd.prog 21 #[.string s, .int .i64 (-1)] w' fun e w'' => e = .returned (.tuple #[.int .i64 0, .int .i64 30]) ∧ Touch (fun _ => False) w' w'') := fun w' h => by
          have := P.out (-1) w' h
          rwa [no_ahead HR.out] at this
        have h4 := H3.out.trans HTr.out
        clear HTr H3 HRow P hlt
        generalize sum16 rs = T at *
        go_wp2_with fail
        refine (HQ1.out _ (HT.out.keep h4)).mono ?_
        rintro _ w5 ⟨rfl, t1⟩
        have h5 := h4.trans t1
        clear h4 t1
        go_wp2_with fail
        refine (HQ2.out _ (HT.out.keep h5)).mono ?_
        rintro _ w6 ⟨rfl, t1⟩
        have h6 := h5.trans t1
        clear h5 t1
        go_wp2_with fail
        refine (HQ3.out _ (HT.out.keep h6)).mono ?_
        rintro _ w7 ⟨rfl, t1⟩
        have h7 := h6.trans t1
        clear h6 t1
        go_wp2_with fail
        go_ret
        exact ⟨rfl, h7⟩
end Go.Proofs.YteemjbnhiiadaaaDoor

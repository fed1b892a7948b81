/- The contracts of quireref3.Runes in one form, Len, Len16. -/
import Derived.Test.YteemjbnhiiadaaaDoorUtfSmall
import Derived.Laws.OwnMore
namespace Go.Proofs.YteemjbnhiiadaaaDoor
open Go.RowKit
set_option linter.unusedVariables false
set_option maxRecDepth 100000

/-- A slice of runes lies in w. -/
def Row (w : World) (a : Option Addr) (c : Nat) (rs : List Nat) : Prop :=
  rs.length ≤ c ∧ c ≤ maxLen ∧ (rs ≠ [] → ∃ g, a = some ⟨g, 0, none⟩ ∧ ∀ k, (h : k < rs.length) → w.cell? ⟨g, k, none⟩ = some (.int .i32 (rs[k] : Int)))
theorem Row.keep {w w' : World} {a : Option Addr} {c : Nat} {rs : List Nat} (h : Row w a c rs) (hT : Touch (fun _ => False) w w') : Row w' a c rs := by
  refine ⟨h.1, h.2.1, fun hne => ?_⟩
  obtain ⟨g, e, hc⟩ := h.2.2 hne
  exact ⟨g, e, fun k hk => (hT.cell (World.block_lt_of_cell? _ _ (hc k hk)) id k).trans (hc k hk)⟩
/-- What Runes answers: a slice of the text's runes, and whether it is a text. -/
def RunesAny (l : List UInt8) (w : World) (e : Ending) (w' : World) : Prop :=
  Touch (fun _ => False) w w' ∧ ∃ a c, e = .returned (.tuple #[.slice a (rsOf l).length c, .bool (runesOf l).isSome]) ∧ Row w' a c (rsOf l)
theorem ref_runes_any (s : ByteArray) (hs : s.size ≤ 17592186044416) (w : World) : Calls Tryd.prog 16 #[.string s] w (RunesAny s.data.toList w) := by
  refine (ref_runes s hs w).mono ?_
  rintro e w' ⟨hT, ⟨rs, v, h, rfl, hown⟩ | ⟨h, rfl⟩⟩
  · refine ⟨hT, ?_⟩
    rw [rsOf_some h, h]
    have hown0 := hown
    rcases hown.2 with ⟨e, h0⟩ | ⟨g, cap, cur, e, _, hb, hn, hm, _⟩
    · refine ⟨none, 0, ?_, by omega, Nat.zero_le _, fun hne => absurd (List.eq_nil_of_length_eq_zero h0) hne⟩
      rw [e, h0]; rfl
    · subst e
      refine ⟨_, cap, rfl, hn, hm, fun _ => ⟨g, rfl, fun k hk => ?_⟩⟩
      rw [hown0.cellAt k (by omega), runeCells, List.getElem?_map, List.getElem?_eq_getElem hk]
      rfl
  · refine ⟨hT, ?_⟩
    rw [rsOf_none h, h]
    exact ⟨none, 0, rfl, Nat.le_refl _, Nat.zero_le _, fun hne => absurd rfl hne⟩

set_option maxHeartbeats 400000 in
theorem ref_len (s : ByteArray) (hs : s.size ≤ 17592186044416) (w : World) : Calls Tryd.prog 13 #[.string s] w fun e w' => e = .returned (.int .i64 ((rsOf s.data.toList).length : Int)) ∧ Touch (fun _ => False) w w' := by
  have HR : Hid (Calls Tryd.prog 16 #[.string s] w (RunesAny s.data.toList w)) := ref_runes_any s hs w
  go_enter Tryd.func13, Tryd.ntmps13
  go_wp2_with fail
  refine HR.out.mono ?_
  rintro e w1 ⟨hT, a, c, rfl, hown⟩
  have HT : Hid (Touch (fun _ => False) w w1) := hT
  clear hown hT HR
  go_wp2_with fail
  go_ret
  exact ⟨rfl, HT.out⟩

theorem sum16_take (rs : List Nat) (k : Nat) (hk : k < rs.length) : sum16 (rs.take (k + 1)) = sum16 (rs.take k) + un16 rs[k] := by
  rw [List.take_succ_eq_append_getElem hk, sum16_append]; simp [sum16]

set_option maxHeartbeats 1000000 in
theorem ref_len16 (s : ByteArray) (hs : s.size ≤ 17592186044416) (w : World) : Calls Tryd.prog 15 #[.string s] w fun e w' => e = .returned (.int .i64 (sum16 (rsOf s.data.toList) : Int)) ∧ Touch (fun _ => False) w w' := by
  have HR : Hid (Calls Tryd.prog 16 #[.string s] w (RunesAny s.data.toList w)) := ref_runes_any s hs w
  have hln : (rsOf s.data.toList).length ≤ 17592186044416 := by have := rsOf_len s.data.toList; simp at this; omega
  go_enter Tryd.func15, Tryd.ntmps15
  go_wp2_with fail
  refine HR.out.mono ?_
  rintro e w1 ⟨hT, a, c, rfl, hrow⟩
  have HT : Hid (Touch (fun _ => False) w w1) := hT
  have hcap := hrow.1
  have hmax := hrow.2.1
  have HRow : Hid (Row w1 a c (rsOf s.data.toList)) := hrow
  clear hrow hT HR
  go_wp2_with fail
  go_loop [5, 6] (fun n i => ∃ k : Nat, k ≤ (rsOf s.data.toList).length ∧ i = .int .i64 k ∧ n = .int .i64 (sum16 ((rsOf s.data.toList).take k) : Int)) (fun _ i => (rsOf s.data.toList).length - (intOf i).toNat)
  case atStart => exact ⟨0, Nat.zero_le _, rfl, rfl⟩
  case round =>
    obtain ⟨k, hk, rfl, rfl⟩ := hrel
    by_cases hlt : k < (rsOf s.data.toList).length
    · obtain ⟨g, hg, hc⟩ := HRow.out.2.2 (fun e => by rw [e] at hlt; simp at hlt)
      subst hg
      have hck := hc k hlt
      have hst := sum16_take (rsOf s.data.toList) k hlt
      have hb := sum16_bd ((rsOf s.data.toList).take k)
      have hb2 : ((rsOf s.data.toList).take k).length ≤ k := List.length_take_le _ _
      have hu := un16_bd (rsOf s.data.toList)[k]
      have HS : Hid (sum16 ((rsOf s.data.toList).take (k + 1)) = sum16 ((rsOf s.data.toList).take k) + un16 (rsOf s.data.toList)[k]) := hst
      have HW : Hid (∀ w, Calls Tryd.prog 28 #[.int .i32 ((rsOf s.data.toList)[k] : Int)] w fun e w' => e = .returned (.int .i64 (un16 (rsOf s.data.toList)[k] : Int)) ∧ w' = w) := fun w => wide_any _ w
      clear hst hc
      have hT0 : sum16 ((rsOf s.data.toList).take k) ≤ 100000000000000 := by omega
      clear hb hb2
      generalize (rsOf s.data.toList)[k] = r at *
      generalize sum16 ((rsOf s.data.toList).take k) = T at *
      generalize un16 r = U at *
      go_wp2_with fail
      refine (HW.out _).mono ?_
      rintro e w2 ⟨rfl, rfl⟩
      go_wp2_with fail
      go_round
      case rel => exact ⟨k + 1, by omega, by go_num, by rw [HS.out]; go_num⟩
      case measure => simp [intOf]; omega
    · have HF : Hid ((rsOf s.data.toList).take k = rsOf s.data.toList) := by rw [Hid]; exact List.take_of_length_le (by omega)
      go_wp2_with fail
      go_ret
      exact ⟨by rw [HF.out]; rfl, HT.out⟩
end Go.Proofs.YteemjbnhiiadaaaDoor

/- The contract of quirehelp.Spoil: nothing but the bytes' own block turns. -/
import Derived.Test.YtfmpbkdmcgkeoaaBClone
namespace Go.Proofs.Ytfmpbkdmcgkeoaa
open Go.RowKit Go.Maps
set_option linter.unusedVariables false
set_option linter.unusedSimpArgs false

/-- A block of bytes of whatever values. -/
def Byt (w : World) (g n : Nat) : Prop := ∃ cur : Array Value, w.heap[g]? = some (.cells cur 5 (0, 0)) ∧ n ≤ cur.size ∧ ∀ j, j < n → ∃ z : Int, cur[j]? = some (.int .u8 z)
theorem Byt.set {w : World} {g n : Nat} (h : Byt w g n) (j : Nat) (z : Int) : Byt (w.setCell ⟨g, j, none⟩ (.int .u8 z)) g n := by
  obtain ⟨cur, hb, hn, hc⟩ := h
  refine ⟨cur.setIfInBounds j (.int .u8 z), ?_, by simpa using hn, fun i hi => ?_⟩
  · rw [heap_setCell_same _ _ _ _ hb]
  · by_cases e : j = i
    · subst e
      exact ⟨z, by rw [Array.getElem?_setIfInBounds_self_of_lt (by omega)]⟩
    · obtain ⟨y, hy⟩ := hc i hi
      exact ⟨y, by rw [Array.getElem?_setIfInBounds_ne e]; exact hy⟩
theorem byt_of_owned {w : World} {base : Nat} {v : Value} {bs : List UInt8} (h : w.ownsRow base 5 1 v bs.length (cellsOf bs)) : (v = .slice none 0 0 ∧ bs = []) ∨ ∃ g cap, v = .slice (some ⟨g, 0, none⟩) bs.length cap ∧ base ≤ g ∧ g < w.heap.size ∧ Byt w g bs.length := by
  rcases h.2 with ⟨e, hn⟩ | ⟨g, cap, cur, e, hb, hg, h1, h2, h3, h4⟩
  · exact .inl ⟨e, List.eq_nil_of_length_eq_zero hn⟩
  · refine .inr ⟨g, cap, e, hb, lt_of_heap hg, cur, hg, by omega, fun j hj => ?_⟩
    have h5 : (cellsOf bs)[j]? = some (.int .u8 (bs[j]'hj).toNat) := by simp [cellsOf, List.getElem?_eq_getElem hj]
    rw [← h4, List.getElem?_take] at h5
    rw [if_pos (by omega)] at h5
    exact ⟨_, by rw [← Array.getElem?_toList]; exact h5⟩

set_option maxRecDepth 100000 in
set_option maxHeartbeats 800000 in
theorem spoil_some (g n cap : Nat) (w : World) (hn : n ≤ 9223372036854775807) (h : Byt w g n) :
    Calls Try.prog 11 #[.slice (some ⟨g, 0, none⟩) n cap] w fun e w' => e = .returned (.tuple #[]) ∧ Touch (fun k => k = g) w w' := by
  have HB : Hid (Byt w g n) := h
  clear h
  go_enter Try.func11, Try.ntmps11
  go_wp2_with fail
  go_loopw [2] (fun i wr => ∃ k : Nat, i = .int .i64 (k : Int) ∧ k ≤ n ∧ Byt wr g n ∧ Touch (fun k => k = g) w wr) (fun i _ => (n - intOf i).toNat)
  case atStart => exact ⟨0, rfl, Nat.zero_le _, HB.out, Touch.refl _ _⟩
  case round =>
    obtain ⟨k, rfl, hk, hB, hT⟩ := hrel
    by_cases hlt : k < n
    · obtain ⟨cur, hb, hs, hc⟩ := id hB
      obtain ⟨z, hz⟩ := hc k hlt
      have c0 : wr.cell? ⟨g, k, none⟩ = some (.int .u8 z) := by rw [cell_of_block hb]; exact hz
      have f0 : wr.frozen? ⟨g, k, none⟩ = false := free_of_block hb
      have HB1 : Hid (∀ y, Byt (wr.setCell ⟨g, k, none⟩ (.int .u8 y)) g n ∧ Touch (fun k => k = g) w (wr.setCell ⟨g, k, none⟩ (.int .u8 y))) := fun y => ⟨hB.set k y, hT.setCell _ _ fun _ => rfl⟩
      clear hb hs hc hz hB hT
      have h0 : (0 : Int) ≤ (k : Int) := by omega
      have h1 : (k : Int) < (n : Int) := by omega
      go_wp2_with fail
      first
        | (go_roundw
           case rel => exact ⟨k + 1, by go_num, by omega, (HB1.out _).1, (HB1.out _).2⟩
           case measure => simp [intOf]; omega)
        | (go_region
           go_wp2_with fail
           go_roundw
           case rel => exact ⟨k + 1, by go_num, by omega, (HB1.out _).1, (HB1.out _).2⟩
           case measure => simp [intOf]; omega)
    · have HT : Hid (Touch (fun k => k = g) w wr) := hT
      clear hT hB
      go_wp2_with fail
      go_end0
      exact ⟨rfl, HT.out⟩
set_option maxRecDepth 100000 in
set_option maxHeartbeats 400000 in
theorem spoil_none (w : World) : Calls Try.prog 11 #[.slice none 0 0] w fun e w' => e = .returned (.tuple #[]) ∧ w' = w := by
  go_enter Try.func11, Try.ntmps11
  go_wp2_with fail
  go_loopw [2] (fun i wr => i = .int .i64 0 ∧ wr = w) (fun _ _ => 0)
  case atStart => exact ⟨rfl, rfl⟩
  case round =>
    obtain ⟨rfl, hw⟩ := hrel
    rw [hw]
    go_wp2_with fail
    go_end0
    exact ⟨rfl, rfl⟩
/-- What a call made since base is spoilt: nothing older turns. -/
theorem spoil_owned (base : Nat) (v : Value) (bs : List UInt8) (w : World) (hl : bs.length ≤ 9223372036854775807) (h : w.ownsRow base 5 1 v bs.length (cellsOf bs)) :
    Calls Try.prog 11 #[v] w fun e w' => e = .returned (.tuple #[]) ∧ Touch (fun k => base ≤ k ∧ v.ownBlock = some k) w w' := by
  rcases byt_of_owned h with ⟨rfl, rfl⟩ | ⟨g, cap, rfl, hb, _, hB⟩
  · refine (spoil_none w).mono ?_
    rintro e w' ⟨rfl, rfl⟩
    exact ⟨rfl, Touch.refl _ _⟩
  · refine (spoil_some g _ cap w hl hB).mono ?_
    rintro e w' ⟨rfl, t⟩
    exact ⟨rfl, t.mono fun k _ e => ⟨e ▸ hb, by rw [e]; rfl⟩⟩
end Go.Proofs.Ytfmpbkdmcgkeoaa

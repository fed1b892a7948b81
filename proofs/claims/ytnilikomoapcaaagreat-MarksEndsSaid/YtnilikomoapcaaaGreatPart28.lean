/- slices.SortStableFunc of one span. -/
import Derived.Test.YtnilikomoapcaaaGreatPart23
import Derived.Deep.LoopGhost
import Derived.BigQuiet
import Derived.Deep.CutBlock
import Derived.Test.YtnilikomoapcaaaGreatPart8
import Derived.Maps.AppendAt
import Derived.Laws.OwnMore
import Derived.Shelf.GgSortFunc.RowK
namespace Go.Proofs.YtnilikomoapcaaaGreat
open Go.RowKit
set_option linter.unusedVariables false
set_option linter.unusedSimpArgs false
set_option maxRecDepth 100000

set_option maxHeartbeats 4000000 in
theorem insOne_any (ao : Option Addr) (n cap : Nat) (f : Nat) (w : World) : Calls Tryz.prog 110 #[.slice ao n cap, .int .i64 0, .int .i64 1, .func (.func f) #[] #[]] w fun e w' => e = .returned (.tuple #[]) ∧ w' = w := by
  go_enter Tryz.func110, Tryz.ntmps110
  go_wp2_with fail
  go_loopw [8] (fun i wr => i = .int .i64 1 ∧ wr = w) (fun _ _ => 0)
  case atStart => exact ⟨rfl, rfl⟩
  case round =>
    obtain ⟨rfl, hw⟩ := hrel
    rw [hw]
    clear hw
    go_wp2_with fail
    go_end0
    exact ⟨rfl, rfl⟩
set_option maxHeartbeats 4000000 in
theorem stableOne_any (ao : Option Addr) (cap : Nat) (f : Nat) (w : World) : Calls Tryz.prog 82 #[.slice ao 1 cap, .int .i64 1, .func (.func f) #[] #[]] w fun e w' => e = .returned (.tuple #[]) ∧ w' = w := by
  have HI : Hid (Calls Tryz.prog 110 #[.slice ao 1 cap, .int .i64 0, .int .i64 1, .func (.func f) #[] #[]] w fun e w' => e = .returned (.tuple #[]) ∧ w' = w) := insOne_any ao 1 cap f w
  go_enter Tryz.func82, Tryz.ntmps82
  go_wp2_with fail
  go_loopw [7, 8] (fun a b wr => a = .int .i64 0 ∧ b = .int .i64 20 ∧ wr = w) (fun _ _ _ => 0)
  case atStart => exact ⟨rfl, rfl, rfl⟩
  case round =>
    obtain ⟨rfl, rfl, hw⟩ := hrel
    rw [hw]
    clear hw
    go_wp2_with fail
    refine HI.out.mono ?_
    rintro e w1 ⟨rfl, hw1⟩
    rw [hw1]
    clear hw1
    go_wp2_with fail
    go_loopw [6, 7, 8, 9] (fun c a b d wr => c = .int .i64 20 ∧ wr = w) (fun _ _ _ _ _ => 0)
    case atStart => exact ⟨rfl, rfl⟩
    case round =>
      obtain ⟨rfl, hw⟩ := hrel
      rw [hw]
      clear hw
      go_wp2_with fail
      go_end0
      exact ⟨rfl, rfl⟩
set_option maxHeartbeats 4000000 in
theorem sortOne_any (ao : Option Addr) (cap : Nat) (f : Nat) (w : World) : Calls Tryz.prog 63 #[.slice ao 1 cap, .func (.func f) #[] #[]] w fun e w' => e = .returned (.tuple #[]) ∧ w' = w := by
  have HI : Hid (Calls Tryz.prog 82 #[.slice ao 1 cap, .int .i64 1, .func (.func f) #[] #[]] w fun e w' => e = .returned (.tuple #[]) ∧ w' = w) := stableOne_any ao cap f w
  go_enter Tryz.func63, Tryz.ntmps63
  go_wp2_with fail
  refine HI.out.mono ?_
  rintro e w1 ⟨rfl, hw1⟩
  rw [hw1]
  clear hw1
  go_wp2_with fail
  go_end0
  exact ⟨rfl, rfl⟩
end Go.Proofs.YtnilikomoapcaaaGreat

/- slices.Sort, slices.Compact of two numbers that rise; cmp.Less. -/
namespace Go.Proofs.YtnilikomoapcaaaGreat
open Go.RowKit
set_option linter.unusedVariables false
set_option linter.unusedSimpArgs false
set_option maxRecDepth 100000

set_option maxHeartbeats 1000000 in
theorem nan_int (a : Int) (w : World) : Calls Tryz.prog 113 #[.int .i64 a] w fun e w' => e = .returned (.bool false) ∧ w' = w := by
  have h : (a != a) = false := by simp
  go_enter Tryz.func113, Tryz.ntmps113
  go_wp2_with fail
  go_ret
  exact ⟨by simp, rfl⟩
set_option maxHeartbeats 1000000 in
theorem cmpLess_any (a b : Int) (w : World) : Calls Tryz.prog 85 #[.int .i64 a, .int .i64 b] w fun e w' => e = .returned (.bool (decide (a < b))) ∧ w' = w := by
  have HN : Hid (∀ a, Calls Tryz.prog 113 #[.int .i64 a] w fun e w' => e = .returned (.bool false) ∧ w' = w) := fun a => nan_int a w
  cases hd : decide (a < b) with
  | true =>
    go_enter Tryz.func85, Tryz.ntmps85
    go_wp2_with fail
    refine (HN.out _).mono ?_
    rintro e w1 ⟨rfl, hw1⟩
    rw [hw1]; clear hw1
    go_wp2_with fail
    go_ret
    exact ⟨rfl, rfl⟩
  | false =>
    go_enter Tryz.func85, Tryz.ntmps85
    go_wp2_with fail
    refine (HN.out _).mono ?_
    rintro e w1 ⟨rfl, hw1⟩
    rw [hw1]; clear hw1
    go_wp2_with fail
    go_ret
    exact ⟨rfl, rfl⟩
set_option maxHeartbeats 4000000 in
theorem insTwo_any {w : World} {g cap : Nat} {f t : Int} (h0 : w.cell? ⟨g, 0, none⟩ = some (.int .i64 f)) (h1 : w.cell? ⟨g, 1, none⟩ = some (.int .i64 t)) (hft : f < t) :
    Calls Tryz.prog 126 #[.slice (some ⟨g, 0, none⟩) 2 cap, .int .i64 0, .int .i64 2] w fun e w' => e = .returned (.tuple #[]) ∧ Touch (fun _ => False) w w' := by
  have HL : Hid (∀ W, Calls Tryz.prog 85 #[.int .i64 t, .int .i64 f] W fun e w' => e = .returned (.bool false) ∧ w' = W) := fun W => by
    have := cmpLess_any t f W
    rwa [decide_eq_false (by omega)] at this
  have HC : Hid (∀ W, Touch (fun _ => False) w W → W.cell? ⟨g, 0, none⟩ = some (.int .i64 f) ∧ W.cell? ⟨g, 1, none⟩ = some (.int .i64 t)) := fun W T => ⟨by rw [World.cell?_of_block (T.block _ (World.block_lt_of_cell? _ _ h0) id)]; exact h0, by rw [World.cell?_of_block (T.block _ (World.block_lt_of_cell? _ _ h1) id)]; exact h1⟩
  clear h0 h1 hft
  go_enter Tryz.func126, Tryz.ntmps126
  go_wp2_with fail
  go_loopw [6, 7] (fun i j wr => (∃ k : Nat, i = .int .i64 (k : Int) ∧ (k = 1 ∨ k = 2)) ∧ Touch (fun _ => False) w wr) (fun i _ _ => 3 - (intOf i).toNat)
  case atStart => exact ⟨⟨1, rfl, .inl rfl⟩, Touch.refl _ _⟩
  case round =>
    obtain ⟨⟨k, rfl, hk⟩, hT⟩ := hrel
    have HT : Hid (Touch (fun _ => False) w wr) := hT
    obtain ⟨c0, c1⟩ := HC.out wr hT
    clear hT
    rcases hk with rfl | rfl
    · go_wp2_with fail
      go_loopw [7] (fun j wr' => j = .int .i64 1 ∧ wr' = wr) (fun _ _ => 0)
      case atStart => exact ⟨rfl, rfl⟩
      case round =>
        obtain ⟨rfl, hw⟩ := hrel
        rw [hw]
        clear hw
        go_wp2_with fail
        go_quiet (first | (go_at_call 85; exact Calls.quiet_of_same (HL.out _)))
        go_wp2_with fail
        exact ⟨⟨⟨2, rfl, .inr rfl⟩, HT.out.drewN _⟩, by decide⟩
    · go_wp2_with fail
      go_end0
      exact ⟨rfl, HT.out⟩
set_option maxHeartbeats 4000000 in
theorem pdqTwo_any {w : World} {g cap : Nat} {f t : Int} (lim : Int) (h0 : w.cell? ⟨g, 0, none⟩ = some (.int .i64 f)) (h1 : w.cell? ⟨g, 1, none⟩ = some (.int .i64 t)) (hft : f < t) :
    Calls Tryz.prog 112 #[.slice (some ⟨g, 0, none⟩) 2 cap, .int .i64 0, .int .i64 2, .int .i64 lim] w fun e w' => e = .returned (.tuple #[]) ∧ Touch (fun _ => False) w w' := by
  have HI : Hid (Calls Tryz.prog 126 #[.slice (some ⟨g, 0, none⟩) 2 cap, .int .i64 0, .int .i64 2] w fun e w' => e = .returned (.tuple #[]) ∧ Touch (fun _ => False) w w') := insTwo_any h0 h1 hft
  clear h0 h1 hft
  go_enter Tryz.func112, Tryz.ntmps112
  go_wp2_with fail
  go_loopw [1, 2, 3, 8, 9] (fun a b c d e wr => a = .int .i64 0 ∧ b = .int .i64 2 ∧ wr = w) (fun _ _ _ _ _ _ => 0)
  case atStart => exact ⟨rfl, rfl, rfl⟩
  case round =>
    obtain ⟨rfl, rfl, hw⟩ := hrel
    rw [hw]
    clear hw
    go_wp2_with fail
    refine HI.out.mono ?_
    rintro e w1 ⟨rfl, t1⟩
    have HT : Hid (Touch (fun _ => False) w w1) := t1
    clear t1
    go_wp2_with fail
    refine bodyPost_ret (results_none rfl _ _ _) rfl ?_
    exact ⟨rfl, HT.out⟩
set_option maxHeartbeats 4000000 in
theorem len64Two (w : World) : Calls Tryz.prog 109 #[.int .u64 2] w fun e w' => e = .returned (.int .i64 2) ∧ w' = w := by
  go_enter Tryz.func109, Tryz.ntmps109
  go_wp2_with fail
  go_ret
  exact ⟨by kernel_rfl, rfl⟩
end Go.Proofs.YtnilikomoapcaaaGreat

/- slices.Sort, slices.Compact of two numbers that rise. -/
namespace Go.Proofs.YtnilikomoapcaaaGreat
open Go.RowKit
set_option linter.unusedVariables false
set_option linter.unusedSimpArgs false
set_option maxRecDepth 100000

set_option maxHeartbeats 4000000 in
theorem lenTwo (w : World) : Calls Tryz.prog 81 #[.int .u64 2] w fun e w' => e = .returned (.int .i64 2) ∧ w' = w := by
  have HL : Hid (Calls Tryz.prog 109 #[.int .u64 2] w fun e w' => e = .returned (.int .i64 2) ∧ w' = w) := len64Two w
  go_enter Tryz.func81, Tryz.ntmps81
  go_wp2_with fail
  refine HL.out.mono ?_
  rintro e w1 ⟨rfl, hw1⟩
  rw [hw1]; clear hw1
  go_wp2_with fail
  go_ret
  exact ⟨rfl, rfl⟩
set_option maxHeartbeats 4000000 in
theorem sortTwo_any {w : World} {g cap : Nat} {f t : Int} (h0 : w.cell? ⟨g, 0, none⟩ = some (.int .i64 f)) (h1 : w.cell? ⟨g, 1, none⟩ = some (.int .i64 t)) (hft : f < t) :
    Calls Tryz.prog 83 #[.slice (some ⟨g, 0, none⟩) 2 cap] w fun e w' => e = .returned (.tuple #[]) ∧ Touch (fun _ => False) w w' := by
  have HP : Hid (Calls Tryz.prog 112 #[.slice (some ⟨g, 0, none⟩) 2 cap, .int .i64 0, .int .i64 2, .int .i64 2] w fun e w' => e = .returned (.tuple #[]) ∧ Touch (fun _ => False) w w') := pdqTwo_any 2 h0 h1 hft
  have HL : Hid (Calls Tryz.prog 81 #[.int .u64 2] w fun e w' => e = .returned (.int .i64 2) ∧ w' = w) := lenTwo w
  clear h0 h1 hft
  go_enter Tryz.func83, Tryz.ntmps83
  go_wp2_with fail
  refine HL.out.mono ?_
  rintro e w1 ⟨rfl, hw1⟩
  rw [hw1]; clear hw1
  go_wp2_with fail
  refine HP.out.mono ?_
  rintro e w1 ⟨rfl, t1⟩
  have HT : Hid (Touch (fun _ => False) w w1) := t1
  clear t1
  go_wp2_with fail
  go_end0
  exact ⟨rfl, HT.out⟩
set_option maxHeartbeats 4000000 in
theorem compactTwo_any {w : World} {g cap : Nat} {f t : Int} (h0 : w.cell? ⟨g, 0, none⟩ = some (.int .i64 f)) (h1 : w.cell? ⟨g, 1, none⟩ = some (.int .i64 t)) (hft : f < t) :
    Calls Tryz.prog 84 #[.slice (some ⟨g, 0, none⟩) 2 cap] w fun e w' => e = .returned (.slice (some ⟨g, 0, none⟩) 2 cap) ∧ Touch (fun _ => False) w w' := by
  have hne : (t == f) = false := by simp; omega
  have HC : Hid (∀ W, Touch (fun _ => False) w W → W.cell? ⟨g, 0, none⟩ = some (.int .i64 f) ∧ W.cell? ⟨g, 1, none⟩ = some (.int .i64 t)) := fun W T => ⟨by rw [World.cell?_of_block (T.block _ (World.block_lt_of_cell? _ _ h0) id)]; exact h0, by rw [World.cell?_of_block (T.block _ (World.block_lt_of_cell? _ _ h1) id)]; exact h1⟩
  clear h0 h1 hft
  go_enter Tryz.func84, Tryz.ntmps84
  go_wp2_with fail
  go_loopw [3] (fun i wr => (∃ k : Nat, i = .int .i64 (k : Int) ∧ (k = 1 ∨ k = 2)) ∧ Touch (fun _ => False) w wr) (fun i _ => 3 - (intOf i).toNat)
  case atStart => exact ⟨⟨1, rfl, .inl rfl⟩, Touch.refl _ _⟩
  case round =>
    obtain ⟨⟨k, rfl, hk⟩, hT⟩ := hrel
    have HT : Hid (Touch (fun _ => False) w wr) := hT
    obtain ⟨c0, c1⟩ := HC.out wr hT
    clear hT
    rcases hk with rfl | rfl
    · go_wp2_with fail
      go_quiet (fail)
      go_wp2_with fail
      exact ⟨⟨⟨2, rfl, .inr rfl⟩, HT.out.drewN _⟩, by decide⟩
    · go_wp2_with fail
      go_ret
      exact ⟨rfl, HT.out⟩
end Go.Proofs.YtnilikomoapcaaaGreat

/- Slices of ints: how they lie, are cut, grow. -/
namespace Go.Proofs.YtnilikomoapcaaaGreat
open Go.RowKit Go.Maps
set_option linter.unusedVariables false
set_option linter.unusedSimpArgs false

abbrev jO (r : Int) : Obj := .cells #[.int .i64 r] 3
def cellJ (r : Int) : List Value := [.int .i64 r]
def cellsJ (l : List Int) : List Value := l.flatMap cellJ
theorem cellsJ_cons (r : Int) (l : List Int) : cellsJ (r :: l) = .int .i64 r :: cellsJ l := rfl
theorem cellsJ_append (a b : List Int) : cellsJ (a ++ b) = cellsJ a ++ cellsJ b := by simp [cellsJ]
theorem cellsJ_one (l : List Int) : ∀ u ∈ cellsJ l, u.oneCell' = true := by
  intro u hu
  obtain ⟨f, _, hf⟩ := List.mem_flatMap.1 hu
  simp only [cellJ, List.mem_cons, List.not_mem_nil, or_false] at hf
  rcases hf with rfl <;> rfl
theorem cellsJ_len (l : List Int) : (cellsJ l).length = l.length * 1 := by
  induction l with
  | nil => rfl
  | cons f r ih => rw [cellsJ_cons]; simp only [List.length_cons, ih]; omega
theorem cellsJ_get : ∀ (l : List Int) (j : Nat) (h : j < l.length), (cellsJ l)[j * 1]? = some (.int .i64 l[j])
  | f :: r, 0, _ => rfl
  | f :: r, j + 1, h => by
    have ih := cellsJ_get r j (by simpa using h)
    rw [cellsJ_cons, show (j + 1) * 1 = j * 1 + 1 from by omega]
    exact ih
theorem cellsJ_set : ∀ (l : List Int) (j : Nat) (h : j < l.length) (r : Int), (cellsJ l).set (j * 1) (.int .i64 r) = cellsJ (l.set j r)
  | f :: l, 0, _, r => rfl
  | f :: l, j + 1, h, r => by
    have ih := cellsJ_set l j (by simpa using h) r
    rw [cellsJ_cons, List.set_cons_succ, cellsJ_cons, ← ih, show (j + 1) * 1 = j * 1 + 1 from by omega]
    rfl
theorem infoJ : (Tryz.prog.info? 3).map (fun i => (i.zero, i.size, i.bytes)) = some (some (.int .i64 0), 1, 8) := by kernel_rfl
/-- They lie where a slice of that address begins. -/
def LiesJ (w : World) (ao : Option Addr) (l : List Int) : Prop := l = [] ∨ ∃ b o, ao = some ⟨b, o, none⟩ ∧ (∃ c, w.heap[b]? = some (.cells c 3 (0, 0))) ∧ ∀ j u, (cellsJ l)[j]? = some u → w.cell? ⟨b, o + j, none⟩ = some u
theorem LiesJ.touch {W W' : World} {ao : Option Addr} {b : List Int} (h : LiesJ W ao b) (t : Touch (fun _ => False) W W') : LiesJ W' ao b := by
  rcases h with h | ⟨b, o, e, ⟨c, hT⟩, h⟩
  · exact .inl h
  · refine .inr ⟨b, o, e, ⟨c, (t.block _ (Array.getElem?_eq_some_iff.1 hT).1 id).trans hT⟩, fun j u hu => ?_⟩
    have := h j u hu
    rw [World.cell?_of_block (t.block _ (World.block_lt_of_cell? _ _ this) id)]; exact this
theorem LiesJ.new (W : World) (f : Int) : LiesJ (W.alloc (jO f)) (some ⟨W.heap.size, 0, none⟩) [f] := by
  refine .inr ⟨_, _, rfl, ⟨_, heap_alloc_new W (jO f)⟩, fun j u hu => ?_⟩
  rw [Nat.zero_add, cell_of_block (heap_alloc_new W (jO f))]
  have e : cellsJ [f] = [.int .i64 f] := rfl
  rw [e] at hu
  simpa using hu
theorem addr_addJ (g o j : Nat) : (⟨g, o, none⟩ : Addr).add j = ⟨g, o + j, none⟩ := by
  unfold Addr.add
  split <;> simp_all
/-- v is a slice of l. -/
def SlJ (w : World) (v : Value) (l : List Int) : Prop := ∃ ao cap, v = .slice ao l.length cap ∧ (ao = none → cap = 0) ∧ l.length ≤ cap ∧ cap ≤ 9223372036854775807 ∧ LiesJ w ao l
theorem SlJ.touch {W W' : World} {v : Value} {l : List Int} (h : SlJ W v l) (t : Touch (fun _ => False) W W') : SlJ W' v l := by
  obtain ⟨ao, cap, e, h1, h2, h3, h4⟩ := h
  exact ⟨ao, cap, e, h1, h2, h3, h4.touch t⟩
theorem SlJ.nil (w : World) : SlJ w (.slice none 0 0) [] := ⟨none, 0, rfl, fun _ => rfl, Nat.le_refl _, by omega, .inl rfl⟩
/-- Its cells, where there are any. -/
theorem SlJ.row {w : World} {v : Value} {l : List Int} (h : SlJ w v l) (hne : l ≠ []) : ∃ b o cap, v = .slice (some ⟨b, o, none⟩) l.length cap ∧ l.length ≤ cap ∧ cap ≤ 9223372036854775807 ∧ b < w.heap.size ∧ ∀ j (h : j < l.length), w.cell? ⟨b, o + j * 1, none⟩ = some (.int .i64 l[j]) := by
  obtain ⟨ao, cap, e, h1, h2, h3, h4⟩ := h
  rcases h4 with h4 | ⟨b, o, rfl, _, hc⟩
  · exact absurd h4 hne
  · have hx : ∀ j (h : j < l.length), w.cell? ⟨b, o + j * 1, none⟩ = some (.int .i64 l[j]) := fun j hj => by
      have a0 := cellsJ_get l j hj
      exact hc _ _ a0
    refine ⟨b, o, cap, e, h2, h3, ?_, hx⟩
    have hp : 0 < l.length := List.length_pos_iff.2 hne
    exact World.block_lt_of_cell? _ _ (hx 0 hp)
theorem SlJ.shape {w : World} {v : Value} {l : List Int} (h : SlJ w v l) : ∃ ao cap, v = .slice ao l.length cap ∧ (ao = none → cap = 0) ∧ l.length ≤ cap ∧ cap ≤ 9223372036854775807 := by
  obtain ⟨ao, cap, e, h1, h2, h3, h4⟩ := h
  exact ⟨ao, cap, e, h1, h2, h3⟩
theorem SlJ.from {w : World} {ao : Option Addr} {n cap : Nat} {l : List Int} (h : SlJ w (.slice ao n cap) l) (c : Nat) (hc : c ≤ l.length) : SlJ w (.slice (if cap = c then ao else ao.map (·.add (c * 1))) (n - c) (cap - c)) (l.drop c) := by
  obtain ⟨ao', cap', e, h1, h2, h3, h4⟩ := h
  simp only [Value.slice.injEq] at e
  obtain ⟨rfl, rfl, rfl⟩ := e
  refine ⟨_, _, by rw [List.length_drop], ?_, by rw [List.length_drop]; omega, by omega, ?_⟩
  · intro e
    split at e
    · have := h1 e; omega
    · rw [Option.map_eq_none_iff] at e
      have := h1 e; omega
  · by_cases hd : l.drop c = []
    · exact .inl hd
    · have hlt : c < l.length := by
        rcases Nat.lt_or_ge c l.length with x | x
        · exact x
        · exact absurd (List.drop_of_length_le x) hd
      rcases h4 with h4 | ⟨b, o, rfl, hT, hx⟩
      · subst h4; simp at hlt
      · rw [if_neg (by omega), Option.map_some, addr_addJ]
        refine .inr ⟨b, o + c * 1, rfl, hT, fun j u hu => ?_⟩
        have e2 : cellsJ l = cellsJ (l.take c) ++ cellsJ (l.drop c) := by rw [← cellsJ_append, List.take_append_drop]
        have hlen : (cellsJ (l.take c)).length = c * 1 := by rw [cellsJ_len, List.length_take]; omega
        have : (cellsJ l)[c * 1 + j]? = some u := by
          rw [e2, List.getElem?_append_right (by omega), hlen, Nat.add_sub_cancel_left]; exact hu
        have := hx _ u this
        rw [Nat.add_assoc]; exact this
theorem SlJ.upto {w : World} {ao : Option Addr} {n cap : Nat} {l : List Int} (h : SlJ w (.slice ao n cap) l) (c : Nat) (hc : c ≤ l.length) : SlJ w (.slice ao c cap) (l.take c) := by
  obtain ⟨ao', cap', e, h1, h2, h3, h4⟩ := h
  simp only [Value.slice.injEq] at e
  obtain ⟨rfl, rfl, rfl⟩ := e
  have hlen : (l.take c).length = c := by rw [List.length_take]; omega
  refine ⟨_, _, by rw [hlen], h1, by omega, h3, ?_⟩
  rcases h4 with h4 | ⟨b, o, rfl, hT, hx⟩
  · exact .inl (by rw [h4]; simp)
  · refine .inr ⟨b, o, rfl, hT, fun j u hu => hx j u ?_⟩
    have e2 : cellsJ l = cellsJ (l.take c) ++ cellsJ (l.drop c) := by rw [← cellsJ_append, List.take_append_drop]
    rw [e2, List.getElem?_append_left (by rw [List.getElem?_eq_some_iff] at hu; exact hu.1)]; exact hu
theorem sliceJ_from (vo : Option Addr) (n cap c : Nat) (h : c ≤ n) (W : World) : (Instr.slice 127 (.slice vo n cap) (some (.int .i64 (c : Int))) none none).run Tryz.prog W = .ok (.slice (if cap = c then vo else vo.map (·.add (c * 1))) (n - c) (cap - c)) W := by
  have h1 : (c : Int) ≤ (n : Int) := by omega
  have hu := Tryz.underlying127
  obtain ⟨i0, hi, hz0, hz1, hz2⟩ := info_parts infoJ
  simp [Instr.slice, run_underlying hu, Instr.sliceBounds, run_sliceBound, h1, sizeOf, typeInfo, hi, hz1]
theorem sliceJ_to (vo : Option Addr) (n cap c : Nat) (h : c ≤ cap) (W : World) : (Instr.slice 127 (.slice vo n cap) none (some (.int .i64 (c : Int))) none).run Tryz.prog W = .ok (.slice vo c cap) W := by
  have h1 : (c : Int) ≤ (cap : Int) := by omega
  have hu := Tryz.underlying127
  have ha : ∀ a : Addr, a.add 0 = a := fun a => by cases a; simp [Addr.add]
  obtain ⟨i0, hi, hz0, hz1, hz2⟩ := info_parts infoJ
  simp [Instr.slice, run_underlying hu, Instr.sliceBounds, run_sliceBound, h1, sizeOf, typeInfo, hi, ha]

theorem ownJ_touch {S : Nat → Prop} {w w' : World} {v : Value} {n : Nat} {xs : List Value} (h : w.ownsRow 0 3 1 v n xs) (t : Touch S w w') (hs : ∀ k, v.ownBlock = some k → ¬ S k) : w'.ownsRow 0 3 1 v n xs := by
  refine ⟨h.1, ?_⟩
  rcases h.2 with h | ⟨g, cap, cur, rfl, hb, hg, r⟩
  · exact .inl h
  · exact .inr ⟨g, cap, cur, rfl, hb, (t.block g (lt_of_heap hg) (hs g rfl)).trans hg, r⟩
/-- A slice that was made since W, of the cells xs. -/
structure OwnJ (W w : World) (v : Value) (n : Nat) (xs : List Value) : Prop where
  owns : w.ownsRow 0 3 1 v n xs
  touch : Touch (fun _ => False) W w
  fresh : ∀ k, v.ownBlock = some k → W.heap.size ≤ k
abbrev NewJ (W w : World) (v : Value) (l : List Int) : Prop := OwnJ W w v l.length (cellsJ l)
theorem NewJ.nil (W w : World) (t : Touch (fun _ => False) W w) : NewJ W w (.slice none 0 0) [] := ⟨World.ownsRow_nil _ _ _ _, t, fun k hk => by simp [Value.ownBlock] at hk⟩
theorem OwnJ.on {W w w' : World} {v : Value} {n : Nat} {xs : List Value} (h : OwnJ W w v n xs) (t : Touch (fun _ => False) w w') : OwnJ W w' v n xs :=
  ⟨ownJ_touch h.owns t (fun _ _ => id), h.touch.trans t, h.fresh⟩
/-- It was made since any world ahead, too. -/
theorem OwnJ.since {W0 W w : World} {v : Value} {n : Nat} {xs : List Value} (h : OwnJ W w v n xs) (t : Touch (fun _ => False) W0 W) : OwnJ W0 w v n xs :=
  ⟨h.owns, t.trans h.touch, fun k hk => Nat.le_trans t.size (h.fresh k hk)⟩
theorem NewJ.sl {W w : World} {v : Value} {l : List Int} (h : NewJ W w v l) : SlJ w v l := by
  rcases h.owns.2 with ⟨e, h0⟩ | ⟨g, cap, cur, e, hb, hg, q1, q2, q3, q4⟩
  · have : l = [] := List.length_eq_zero_iff.1 (by omega)
    subst this
    rw [e]; exact SlJ.nil w
  · refine ⟨_, cap, e, (fun h => by cases h), q1, q2, .inr ⟨g, 0, rfl, ⟨_, hg⟩, fun j u hu => ?_⟩⟩
    rw [← q4, List.getElem?_take] at hu
    split at hu
    · rw [cell_of_block hg, Nat.zero_add, ← Array.getElem?_toList]; exact hu
    · cases hu
theorem run_appendJ (w : World) (v : Value) (a : List Int) (hown : w.ownsRow 0 3 1 v a.length (cellsJ a)) (ao : Option Addr) (n cap : Nat) (b : List Int) (hn : n = b.length) (hno : ao = none → cap = 0) (hL : LiesJ w ao b) (hlen : a.length + b.length ≤ 1073741825) :
    ∃ v' w', (Builtin.append_ #[127, 127] 127 #[v, .slice ao n cap]).run Tryz.prog w = .ok v' w' ∧ w'.ownsRow 0 3 1 v' (a ++ b).length (cellsJ (a ++ b)) ∧ w.grownBy w' v.ownBlock ∧ (v'.ownBlock = v.ownBlock ∨ v'.ownBlock = some w.heap.size) := by
  subst hn
  obtain ⟨i0, hi, hz0, hz1, hz2⟩ := info_parts infoJ
  cases ao with
  | none =>
    have hb : b = [] := by
      rcases hL with h | ⟨b', o, e, _⟩
      · exact h
      · cases e
    subst hb
    have hc := hno rfl
    subst hc
    refine ⟨v, w, run_append_owned_none w 0 127 127 3 i0 1 Tryz.underlying127 hi v a.length (cellsJ a) hown, ?_, World.grownBy.refl w _, .inl rfl⟩
    rw [List.append_nil]; exact hown
  | some ad =>
    have hcl : ∀ j u, (cellsJ b)[j]? = some u → w.cell? (ad.add j) = some u := by
      rcases hL with h | ⟨b', o, e, _, h⟩
      · subst h; intro j u hu; simp [cellsJ] at hu
      · cases e; intro j u hu; rw [addr_addJ]; exact h j u hu
    obtain ⟨v', w', hrun, hown', hg, _, hat⟩ := run_append_own_at w 0 127 127 3 i0 _ 1 8 Tryz.underlying127 hi hz0 hz1 hz2 rfl (by decide) v a.length (cellsJ a) hown ad b.length cap (cellsJ b) (cellsJ_len b) hcl (cellsJ_one b) (by unfold maxLen; omega) (by omega) (Nat.zero_le _)
    refine ⟨v', w', hrun, ?_, hg, hat⟩
    rw [cellsJ_append, List.length_append]; exact hown'
theorem NewJ.app {W wx : World} {v : Value} {a : List Int} (h : NewJ W wx v a) (ao : Option Addr) (n cap : Nat) (b : List Int) (hn : n = b.length) (hno : ao = none → cap = 0) (hL : LiesJ wx ao b) (hlen : a.length + b.length ≤ 1073741825) :
    ∃ v' w', (Builtin.append_ #[127, 127] 127 #[v, .slice ao n cap]).run Tryz.prog wx = .ok v' w' ∧ NewJ W w' v' (a ++ b) ∧ wx.grownBy w' v.ownBlock := by
  obtain ⟨v', w', hr, ho, hg, hb⟩ := run_appendJ wx v a h.owns ao n cap b hn hno hL hlen
  refine ⟨v', w', hr, ⟨ho, ?_, fun k hk => ?_⟩, hg⟩
  · exact h.touch.then ((Touch.refl (fun i => v.ownBlock = some i) wx).grown hg (fun i e _ => e)) fun i hi e => absurd hi (Nat.not_lt.2 (h.fresh i e))
  · rcases hb with e | e
    · exact h.fresh k (e ▸ hk)
    · rw [hk] at e; have := h.touch.size; simp at e; omega
/-- An append of one, out of a new block. -/
theorem NewJ.app1 {W wx : World} {v : Value} {a : List Int} (h : NewJ W wx v a) (r : Int) (hlen : a.length ≤ 1073741824) :
    ∃ v' w', (Builtin.append_ #[127, 127] 127 #[v, .slice (some ⟨wx.heap.size, 0, none⟩) 1 1]).run Tryz.prog (wx.alloc (jO r)) = .ok v' w' ∧ NewJ W w' v' (a ++ [r]) ∧ (wx.alloc (jO r)).grownBy w' v.ownBlock :=
  NewJ.app (h.on ((Touch.refl _ wx).alloc _)) (some ⟨wx.heap.size, 0, none⟩) 1 1 [r] rfl (fun h => by cases h) (LiesJ.new wx r) (by simp; omega)
theorem wpList_append_runJ {w w' : World} {ops : Array Oper} {rest : List Oper} {o : Oper} {a : Act} {Q : Exit → Act → World → Prop} (hgd : o.guard = none) (s x : Operand)
    (ho : o.op = .call { callee := .builtin .append, args := #[s, x], argTypes := #[127, 127] }) (v y v' : Value) (hs : a.eval s = v) (hx : a.eval x = y)
    (hrun : (Builtin.append_ #[127, 127] o.type #[v, y]).run Tryz.prog w = .ok v' w') (h : wpList Tryz.prog ops Q rest (a.put o.dst v') w') : wpList Tryz.prog ops Q (o :: rest) a w := by
  refine wpList_plain hgd fun K' hK' => ?_
  unfold Oper.wp
  simp [execOp, ho, resolve, invoke, builtin, hs, hx, hrun, Result.andThen]
  exact hK' _ _ h
/-- A cell of it laid anew. -/
theorem OwnJ.set {W w : World} {v : Value} {n : Nat} {xs : List Value} (h : OwnJ W w v n xs) {g cap : Nat} (e : v = .slice (some ⟨g, 0, none⟩) n cap) (i : Nat) (hi : i < n * 1) (y : Value) (hy : y.oneCell' = true) : OwnJ W (w.setCell ⟨g, i, none⟩ y) v n (xs.set i y) := by
  have hf : W.heap.size ≤ g := h.fresh g (by rw [e]; rfl)
  have h1 := h.owns.1
  rcases h.owns.2 with ⟨e', h0⟩ | ⟨g', cap', cur, e', hb, hg, q1, q2, q3, q4⟩
  · rw [h0] at hi; omega
  · rw [e] at e'
    simp only [Value.slice.injEq, Option.some.injEq, Addr.mk.injEq] at e'
    obtain ⟨⟨rfl, _, _⟩, _, rfl⟩ := e'
    refine ⟨⟨?_, .inr ⟨g, cap, cur.setIfInBounds i y, e, hb, by rw [heap_setCell_same _ _ _ _ hg], q1, q2, ?_, ?_⟩⟩, h.touch.setCell _ _ (fun hk => absurd hk (Nat.not_lt.2 hf)), h.fresh⟩
    · rw [List.length_set]; exact h1
    · simpa using q3
    · rw [Array.toList_setIfInBounds, ← q4, List.take_set]
theorem OwnJ.free {W w : World} {v : Value} {n : Nat} {xs : List Value} (h : OwnJ W w v n xs) {g cap : Nat} (e : v = .slice (some ⟨g, 0, none⟩) n cap) (hn : 0 < n) (i : Nat) : w.frozen? ⟨g, i, none⟩ = false := by
  rcases h.owns.2 with ⟨e', h0⟩ | ⟨g', cap', cur, e', hb, hg, q1, q2, q3, q4⟩
  · omega
  · rw [e] at e'
    simp only [Value.slice.injEq, Option.some.injEq, Addr.mk.injEq] at e'
    obtain ⟨⟨rfl, _, _⟩, _, rfl⟩ := e'
    exact free_of_block hg
theorem OwnJ.shape {W w : World} {v : Value} {n : Nat} {xs : List Value} (h : OwnJ W w v n xs) : ∃ ao cap, v = .slice ao n cap ∧ (0 < n → ∃ g, ao = some ⟨g, 0, none⟩) ∧ n ≤ cap ∧ cap ≤ 9223372036854775807 := by
  rcases h.owns.2 with ⟨e, h0⟩ | ⟨g, cap, cur, e, hb, hg, q1, q2, q3, q4⟩
  · exact ⟨none, 0, by rw [e, h0], fun h => by omega, by omega, by omega⟩
  · exact ⟨_, cap, e, fun _ => ⟨g, rfl⟩, q1, q2⟩
end Go.Proofs.YtnilikomoapcaaaGreat

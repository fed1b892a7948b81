/- The contract of quireref2.Write, onto nothing. -/
import Derived.Test.YtaihofkmcpcjeaaDoorRef1a
import Derived.Test.YtaihofkmcpcjeaaDoorVWrite
import Derived.Maps.AppendAt
namespace Go.Proofs.YtaihofkmcpcjeaaDoor
open Go.RowKit
set_option linter.unusedVariables false
set_option linter.unusedSimpArgs false
set_option maxRecDepth 100000

set_option maxHeartbeats 1000000 in
theorem ref_write_null (n : Int) (f : Nat) (s : ByteArray) (w : World) (hl : s.size ≤ 1000000) :
    Calls Tryd.prog 24 #[.slice none 0 0, .agg #[.int .i64 0, .int .i64 n, .float .f64 f, .string s]] w fun e w' => ∃ v', e = .returned v' ∧ Grow (.slice none 0 0) v' ([0]) w w' := by
  obtain ⟨i0, hi, hz0, hz1, hz2⟩ := info_parts Tryd.infoByte
  have hown : (w.alloc (.cells #[.int .i64 0, .int .i64 n, .float .f64 f, .string s] 24)).ownsRow 0 5 1 (.slice none 0 0) 0 [] := World.ownsRow_nil _ _ _ _
  go_enter Tryd.func24, Tryd.ntmps24
  go_wp2_with (first | (at_builtin; refine wpList_append_own_at _ rfl _ _ 40 rfl 0 5 i0 (.int .u8 0) 1 1 Tryd.underlying40 hi hz0 hz1 hz2 rfl (by decide) _ _ _ rfl (hown.alloc _) ⟨w.heap.size + 1, 0, none⟩ 1 1 [.int .u8 0] rfl rfl ?a1 ?a2 ?a3 ?a4 ?a5 ?_))
  case a1 =>
    intro j u hj
    match j, hj with
    | 0, hj => simp at hj; subst hj; simp [Addr.add]
  case a2 => intro u hu; simp at hu; subst hu; rfl
  case a3 => unfold maxLen; simp
  case a4 => simp
  case a5 => exact Nat.zero_le _
  intro v1 w1 hown1 hgrow _ hat
  have HG : Hid (Grow (.slice none 0 0) v1 [0] w w1) := by
    refine ⟨?_, ?_, ?_⟩
    · exact hown1
    · exact (((Touch.refl _ w).alloc _).alloc _).grown hgrow (fun i e hi => by simp [Value.ownBlock] at e)
    · intro i hi e
      rcases hat with h | h
      · rw [h] at e; exact e
      · rw [h] at e; simp at e; omega
  have hb : w1.heap[w.heap.size]? = some (.cells #[.int .i64 0, .int .i64 n, .float .f64 f, .string s] 24) := by
    rw [hgrow.block _ (by simp; omega) (by simp [Value.ownBlock]), Below.heap_alloc _ _ _ (by simp)]
    exact heap_alloc_new _ _
  have c0 : w1.cell? ⟨w.heap.size, 0, none⟩ = some (.int .i64 0) := by rw [cell_of_block hb]; rfl
  have c1 : w1.cell? ⟨w.heap.size, 1, none⟩ = some (.int .i64 n) := by rw [cell_of_block hb]; rfl
  have c2 : w1.cell? ⟨w.heap.size, 2, none⟩ = some (.float .f64 f) := by rw [cell_of_block hb]; rfl
  have c3 : w1.cell? ⟨w.heap.size, 3, none⟩ = some (.string s) := by rw [cell_of_block hb]; rfl
  clear hown1 hgrow hat hown hb
  obtain ⟨ao, n', cap', rfl⟩ := HG.out.slice
  go_wp2_with fail
  go_ret
  exact ⟨_, rfl, HG.out⟩

set_option maxHeartbeats 1000000 in
theorem ref_write_map (n : Int) (f : Nat) (s : ByteArray) (w : World) (hl : s.size ≤ 1000000) :
    Calls Tryd.prog 24 #[.slice none 0 0, .agg #[.int .i64 5, .int .i64 n, .float .f64 f, .string s]] w fun e w' => ∃ v', e = .returned v' ∧ Grow (.slice none 0 0) v' ([5]) w w' := by
  obtain ⟨i0, hi, hz0, hz1, hz2⟩ := info_parts Tryd.infoByte
  have hown : (w.alloc (.cells #[.int .i64 5, .int .i64 n, .float .f64 f, .string s] 24)).ownsRow 0 5 1 (.slice none 0 0) 0 [] := World.ownsRow_nil _ _ _ _
  go_enter Tryd.func24, Tryd.ntmps24
  go_wp2_with (first | (at_builtin; refine wpList_append_own_at _ rfl _ _ 40 rfl 0 5 i0 (.int .u8 0) 1 1 Tryd.underlying40 hi hz0 hz1 hz2 rfl (by decide) _ _ _ rfl (hown.alloc _) ⟨w.heap.size + 1, 0, none⟩ 1 1 [.int .u8 5] rfl rfl ?a1 ?a2 ?a3 ?a4 ?a5 ?_))
  case a1 =>
    intro j u hj
    match j, hj with
    | 0, hj => simp at hj; subst hj; simp [Addr.add]
  case a2 => intro u hu; simp at hu; subst hu; rfl
  case a3 => unfold maxLen; simp
  case a4 => simp
  case a5 => exact Nat.zero_le _
  intro v1 w1 hown1 hgrow _ hat
  have HG : Hid (Grow (.slice none 0 0) v1 [5] w w1) := by
    refine ⟨?_, ?_, ?_⟩
    · exact hown1
    · exact (((Touch.refl _ w).alloc _).alloc _).grown hgrow (fun i e hi => by simp [Value.ownBlock] at e)
    · intro i hi e
      rcases hat with h | h
      · rw [h] at e; exact e
      · rw [h] at e; simp at e; omega
  have hb : w1.heap[w.heap.size]? = some (.cells #[.int .i64 5, .int .i64 n, .float .f64 f, .string s] 24) := by
    rw [hgrow.block _ (by simp; omega) (by simp [Value.ownBlock]), Below.heap_alloc _ _ _ (by simp)]
    exact heap_alloc_new _ _
  have c0 : w1.cell? ⟨w.heap.size, 0, none⟩ = some (.int .i64 5) := by rw [cell_of_block hb]; rfl
  have c1 : w1.cell? ⟨w.heap.size, 1, none⟩ = some (.int .i64 n) := by rw [cell_of_block hb]; rfl
  have c2 : w1.cell? ⟨w.heap.size, 2, none⟩ = some (.float .f64 f) := by rw [cell_of_block hb]; rfl
  have c3 : w1.cell? ⟨w.heap.size, 3, none⟩ = some (.string s) := by rw [cell_of_block hb]; rfl
  clear hown1 hgrow hat hown hb
  obtain ⟨ao, n', cap', rfl⟩ := HG.out.slice
  go_wp2_with fail
  go_ret
  exact ⟨_, rfl, HG.out⟩

set_option maxHeartbeats 1000000 in
theorem ref_write_int (n : Int) (f : Nat) (s : ByteArray) (h0 : -9223372036854775808 ≤ n) (h1 : n < 9223372036854775808) (w : World) (hl : s.size ≤ 1000000) :
    Calls Tryd.prog 24 #[.slice none 0 0, .agg #[.int .i64 2, .int .i64 n, .float .f64 f, .string s]] w fun e w' => ∃ v', e = .returned v' ∧ Grow (.slice none 0 0) v' ([2] ++ putU (unzz n)) w w' := by
  obtain ⟨i0, hi, hz0, hz1, hz2⟩ := info_parts Tryd.infoByte
  have hown : (w.alloc (.cells #[.int .i64 2, .int .i64 n, .float .f64 f, .string s] 24)).ownsRow 0 5 1 (.slice none 0 0) 0 [] := World.ownsRow_nil _ _ _ _
  go_enter Tryd.func24, Tryd.ntmps24
  go_wp2_with (first | (at_builtin; refine wpList_append_own_at _ rfl _ _ 40 rfl 0 5 i0 (.int .u8 0) 1 1 Tryd.underlying40 hi hz0 hz1 hz2 rfl (by decide) _ _ _ rfl (hown.alloc _) ⟨w.heap.size + 1, 0, none⟩ 1 1 [.int .u8 2] rfl rfl ?a1 ?a2 ?a3 ?a4 ?a5 ?_))
  case a1 =>
    intro j u hj
    match j, hj with
    | 0, hj => simp at hj; subst hj; simp [Addr.add]
  case a2 => intro u hu; simp at hu; subst hu; rfl
  case a3 => unfold maxLen; simp
  case a4 => simp
  case a5 => exact Nat.zero_le _
  intro v1 w1 hown1 hgrow _ hat
  have HG : Hid (Grow (.slice none 0 0) v1 [2] w w1) := by
    refine ⟨?_, ?_, ?_⟩
    · exact hown1
    · exact (((Touch.refl _ w).alloc _).alloc _).grown hgrow (fun i e hi => by simp [Value.ownBlock] at e)
    · intro i hi e
      rcases hat with h | h
      · rw [h] at e; exact e
      · rw [h] at e; simp at e; omega
  have hb : w1.heap[w.heap.size]? = some (.cells #[.int .i64 2, .int .i64 n, .float .f64 f, .string s] 24) := by
    rw [hgrow.block _ (by simp; omega) (by simp [Value.ownBlock]), Below.heap_alloc _ _ _ (by simp)]
    exact heap_alloc_new _ _
  have c0 : w1.cell? ⟨w.heap.size, 0, none⟩ = some (.int .i64 2) := by rw [cell_of_block hb]; rfl
  have c1 : w1.cell? ⟨w.heap.size, 1, none⟩ = some (.int .i64 n) := by rw [cell_of_block hb]; rfl
  have c2 : w1.cell? ⟨w.heap.size, 2, none⟩ = some (.float .f64 f) := by rw [cell_of_block hb]; rfl
  have c3 : w1.cell? ⟨w.heap.size, 3, none⟩ = some (.string s) := by rw [cell_of_block hb]; rfl
  clear hown1 hgrow hat hown hb
  go_wp2_with fail
  refine (ref1_int _ [2] n h0 h1 _ HG.out.is (by simp)).mono ?_
  rintro e w2 ⟨v2, rfl, hG2⟩
  have HH : Hid (Grow (.slice none 0 0) v2 ([2] ++ putU (unzz n)) w w2) := HG.out.trans hG2
  clear hG2 HG c0 c1 c2 c3
  obtain ⟨ao, n', cap', rfl⟩ := HH.out.slice
  go_wp2_with fail
  go_ret
  exact ⟨_, rfl, HH.out⟩

set_option maxHeartbeats 1000000 in
theorem ref_write_float (n : Int) (f : Nat) (s : ByteArray) (hf : f < 18446744073709551616) (w : World) (hl : s.size ≤ 1000000) :
    Calls Tryd.prog 24 #[.slice none 0 0, .agg #[.int .i64 3, .int .i64 n, .float .f64 f, .string s]] w fun e w' => ∃ v', e = .returned v' ∧ Grow (.slice none 0 0) v' ([3] ++ putF (refBits f)) w w' := by
  have HN : Hid (∀ w, Calls Tryd.prog 56 #[.float .f64 f] w fun e w' => e = .returned (.int .u64 (refBits f)) ∧ w' = w) := ref_bits f
  have hg : refBits f < 18446744073709551616 := by
    unfold refBits; split
    · decide
    · exact hf
  generalize refBits f = g at *
  obtain ⟨i0, hi, hz0, hz1, hz2⟩ := info_parts Tryd.infoByte
  have hown : (w.alloc (.cells #[.int .i64 3, .int .i64 n, .float .f64 f, .string s] 24)).ownsRow 0 5 1 (.slice none 0 0) 0 [] := World.ownsRow_nil _ _ _ _
  go_enter Tryd.func24, Tryd.ntmps24
  go_wp2_with (first | (at_builtin; refine wpList_append_own_at _ rfl _ _ 40 rfl 0 5 i0 (.int .u8 0) 1 1 Tryd.underlying40 hi hz0 hz1 hz2 rfl (by decide) _ _ _ rfl (hown.alloc _) ⟨w.heap.size + 1, 0, none⟩ 1 1 [.int .u8 3] rfl rfl ?a1 ?a2 ?a3 ?a4 ?a5 ?_))
  case a1 =>
    intro j u hj
    match j, hj with
    | 0, hj => simp at hj; subst hj; simp [Addr.add]
  case a2 => intro u hu; simp at hu; subst hu; rfl
  case a3 => unfold maxLen; simp
  case a4 => simp
  case a5 => exact Nat.zero_le _
  intro v1 w1 hown1 hgrow _ hat
  have HG : Hid (Grow (.slice none 0 0) v1 [3] w w1) := by
    refine ⟨?_, ?_, ?_⟩
    · exact hown1
    · exact (((Touch.refl _ w).alloc _).alloc _).grown hgrow (fun i e hi => by simp [Value.ownBlock] at e)
    · intro i hi e
      rcases hat with h | h
      · rw [h] at e; exact e
      · rw [h] at e; simp at e; omega
  have hb : w1.heap[w.heap.size]? = some (.cells #[.int .i64 3, .int .i64 n, .float .f64 f, .string s] 24) := by
    rw [hgrow.block _ (by simp; omega) (by simp [Value.ownBlock]), Below.heap_alloc _ _ _ (by simp)]
    exact heap_alloc_new _ _
  have c0 : w1.cell? ⟨w.heap.size, 0, none⟩ = some (.int .i64 3) := by rw [cell_of_block hb]; rfl
  have c1 : w1.cell? ⟨w.heap.size, 1, none⟩ = some (.int .i64 n) := by rw [cell_of_block hb]; rfl
  have c2 : w1.cell? ⟨w.heap.size, 2, none⟩ = some (.float .f64 f) := by rw [cell_of_block hb]; rfl
  have c3 : w1.cell? ⟨w.heap.size, 3, none⟩ = some (.string s) := by rw [cell_of_block hb]; rfl
  clear hown1 hgrow hat hown hb
  go_wp2_with fail
  refine (HN.out _).mono ?_
  rintro e w9 ⟨rfl, hw9⟩
  rw [hw9]
  clear hw9
  go_wp2_with fail
  refine (ref1_fixed _ [3] g hg _ HG.out.is (by simp)).mono ?_
  rintro e w2 ⟨v2, rfl, hG2⟩
  have HH : Hid (Grow (.slice none 0 0) v2 ([3] ++ putF g) w w2) := HG.out.trans hG2
  clear hG2 HG c0 c1 c2 c3
  obtain ⟨ao, n', cap', rfl⟩ := HH.out.slice
  go_wp2_with fail
  go_ret
  exact ⟨_, rfl, HH.out⟩

set_option maxHeartbeats 1000000 in
theorem ref_write_text (n : Int) (f : Nat) (s : ByteArray) (w : World) (hl : s.size ≤ 1000000) :
    Calls Tryd.prog 24 #[.slice none 0 0, .agg #[.int .i64 4, .int .i64 n, .float .f64 f, .string s]] w fun e w' => ∃ v', e = .returned v' ∧ Grow (.slice none 0 0) v' ([4] ++ putT s) w w' := by
  obtain ⟨i0, hi, hz0, hz1, hz2⟩ := info_parts Tryd.infoByte
  have hown : (w.alloc (.cells #[.int .i64 4, .int .i64 n, .float .f64 f, .string s] 24)).ownsRow 0 5 1 (.slice none 0 0) 0 [] := World.ownsRow_nil _ _ _ _
  go_enter Tryd.func24, Tryd.ntmps24
  go_wp2_with (first | (at_builtin; refine wpList_append_own_at _ rfl _ _ 40 rfl 0 5 i0 (.int .u8 0) 1 1 Tryd.underlying40 hi hz0 hz1 hz2 rfl (by decide) _ _ _ rfl (hown.alloc _) ⟨w.heap.size + 1, 0, none⟩ 1 1 [.int .u8 4] rfl rfl ?a1 ?a2 ?a3 ?a4 ?a5 ?_))
  case a1 =>
    intro j u hj
    match j, hj with
    | 0, hj => simp at hj; subst hj; simp [Addr.add]
  case a2 => intro u hu; simp at hu; subst hu; rfl
  case a3 => unfold maxLen; simp
  case a4 => simp
  case a5 => exact Nat.zero_le _
  intro v1 w1 hown1 hgrow _ hat
  have HG : Hid (Grow (.slice none 0 0) v1 [4] w w1) := by
    refine ⟨?_, ?_, ?_⟩
    · exact hown1
    · exact (((Touch.refl _ w).alloc _).alloc _).grown hgrow (fun i e hi => by simp [Value.ownBlock] at e)
    · intro i hi e
      rcases hat with h | h
      · rw [h] at e; exact e
      · rw [h] at e; simp at e; omega
  have hb : w1.heap[w.heap.size]? = some (.cells #[.int .i64 4, .int .i64 n, .float .f64 f, .string s] 24) := by
    rw [hgrow.block _ (by simp; omega) (by simp [Value.ownBlock]), Below.heap_alloc _ _ _ (by simp)]
    exact heap_alloc_new _ _
  have c0 : w1.cell? ⟨w.heap.size, 0, none⟩ = some (.int .i64 4) := by rw [cell_of_block hb]; rfl
  have c1 : w1.cell? ⟨w.heap.size, 1, none⟩ = some (.int .i64 n) := by rw [cell_of_block hb]; rfl
  have c2 : w1.cell? ⟨w.heap.size, 2, none⟩ = some (.float .f64 f) := by rw [cell_of_block hb]; rfl
  have c3 : w1.cell? ⟨w.heap.size, 3, none⟩ = some (.string s) := by rw [cell_of_block hb]; rfl
  clear hown1 hgrow hat hown hb
  go_wp2_with fail
  refine (ref1_text _ [4] s _ HG.out.is (by simp; omega)).mono ?_
  rintro e w2 ⟨v2, rfl, hG2⟩
  have HH : Hid (Grow (.slice none 0 0) v2 ([4] ++ putT s) w w2) := HG.out.trans hG2
  clear hG2 HG c0 c1 c2 c3
  obtain ⟨ao, n', cap', rfl⟩ := HH.out.slice
  go_wp2_with fail
  go_ret
  exact ⟨_, rfl, HH.out⟩

set_option maxHeartbeats 1000000 in
theorem ref_write_bool (n : Int) (f : Nat) (s : ByteArray) (hn : n = 0 ∨ n = 1) (w : World) (hl : s.size ≤ 1000000) :
    Calls Tryd.prog 24 #[.slice none 0 0, .agg #[.int .i64 1, .int .i64 n, .float .f64 f, .string s]] w fun e w' => ∃ v', e = .returned v' ∧ Grow (.slice none 0 0) v' ([1] ++ [UInt8.ofNat n.toNat]) w w' := by
  have hw : IntKind.u8.wrap n = (((UInt8.ofNat n.toNat).toNat : Nat) : Int) := by
    rcases hn with e | e <;> subst e <;> decide
  generalize UInt8.ofNat n.toNat = B at *
  clear hn
  obtain ⟨i0, hi, hz0, hz1, hz2⟩ := info_parts Tryd.infoByte
  have hown : (w.alloc (.cells #[.int .i64 1, .int .i64 n, .float .f64 f, .string s] 24)).ownsRow 0 5 1 (.slice none 0 0) 0 [] := World.ownsRow_nil _ _ _ _
  go_enter Tryd.func24, Tryd.ntmps24
  go_wp2_with (first | (at_builtin; refine wpList_append_own_at _ rfl _ _ 40 rfl 0 5 i0 (.int .u8 0) 1 1 Tryd.underlying40 hi hz0 hz1 hz2 rfl (by decide) _ _ _ rfl (hown.alloc _) ⟨w.heap.size + 1, 0, none⟩ 1 1 [.int .u8 1] rfl rfl ?a1 ?a2 ?a3 ?a4 ?a5 ?_))
  case a1 =>
    intro j u hj
    match j, hj with
    | 0, hj => simp at hj; subst hj; simp [Addr.add]
  case a2 => intro u hu; simp at hu; subst hu; rfl
  case a3 => unfold maxLen; simp
  case a4 => simp
  case a5 => exact Nat.zero_le _
  intro v1 w1 hown1 hgrow _ hat
  have HG : Hid (Grow (.slice none 0 0) v1 [1] w w1) := by
    refine ⟨?_, ?_, ?_⟩
    · exact hown1
    · exact (((Touch.refl _ w).alloc _).alloc _).grown hgrow (fun i e hi => by simp [Value.ownBlock] at e)
    · intro i hi e
      rcases hat with h | h
      · rw [h] at e; exact e
      · rw [h] at e; simp at e; omega
  have hb : w1.heap[w.heap.size]? = some (.cells #[.int .i64 1, .int .i64 n, .float .f64 f, .string s] 24) := by
    rw [hgrow.block _ (by simp; omega) (by simp [Value.ownBlock]), Below.heap_alloc _ _ _ (by simp)]
    exact heap_alloc_new _ _
  have c0 : w1.cell? ⟨w.heap.size, 0, none⟩ = some (.int .i64 1) := by rw [cell_of_block hb]; rfl
  have c1 : w1.cell? ⟨w.heap.size, 1, none⟩ = some (.int .i64 n) := by rw [cell_of_block hb]; rfl
  have c2 : w1.cell? ⟨w.heap.size, 2, none⟩ = some (.float .f64 f) := by rw [cell_of_block hb]; rfl
  have c3 : w1.cell? ⟨w.heap.size, 3, none⟩ = some (.string s) := by rw [cell_of_block hb]; rfl
  clear hown1 hgrow hat hown hb
  have hown := HG.out.is
  go_wp2_with (first | (at_builtin; refine wpList_append_own_at _ rfl _ _ 40 rfl 0 5 i0 (.int .u8 0) 1 1 Tryd.underlying40 hi hz0 hz1 hz2 rfl (by decide) _ _ _ rfl (hown.alloc _) ⟨w1.heap.size, 0, none⟩ 1 1 [.int .u8 (B.toNat : Int)] rfl rfl ?b1 ?b2 ?b3 ?b4 ?b5 ?_))
  case b1 =>
    intro j u hj
    match j, hj with
    | 0, hj => simp at hj; subst hj; simp [Addr.add]
  case b2 => intro u hu; simp at hu; subst hu; rfl
  case b3 => unfold maxLen; simp
  case b4 => simp
  case b5 => exact Nat.zero_le _
  intro v2 w2 hown2 hgrow _ hat
  have HH : Hid (Grow (.slice none 0 0) v2 ([1] ++ [B]) w w2) := HG.out.trans (Grow.pushed ((Touch.refl _ w1).alloc _) hown2 hgrow hat (by omega))
  clear hown2 hgrow hat hown HG c0 c1 c2 c3
  obtain ⟨ao, n', cap', rfl⟩ := HH.out.slice
  go_wp2_with fail
  go_ret
  exact ⟨_, rfl, HH.out⟩


theorem ref_write (v : V) (hv : v.good) (w : World) (hl : v.s.size ≤ 1000000) :
    Calls Tryd.prog 24 #[.slice none 0 0, v.val] w fun e w' => ∃ v', e = .returned v' ∧ Grow (.slice none 0 0) v' (writeOf v) w w' := by
  obtain ⟨fit, kind, bool⟩ := hv
  obtain ⟨k, n, f, s⟩ := v
  simp only at *
  rcases kind with e | e | e | e | e | e <;> subst e
  · exact ref_write_null n f s w hl
  · exact ref_write_bool n f s (bool rfl) w hl
  · exact ref_write_int n f s fit.n0 fit.n1 w hl
  · exact ref_write_float n f s fit.f1 w hl
  · exact ref_write_text n f s w hl
  · exact ref_write_map n f s w hl
end Go.Proofs.YtaihofkmcpcjeaaDoor

/- The contract of value.Write. -/
import Derived.Test.YtaihofkmcpcjeaaDoorPart8
import Derived.Test.YtaihofkmcpcjeaaDoorPart9
import Derived.Test.YtaihofkmcpcjeaaDoorVBase
namespace Go.Proofs.YtaihofkmcpcjeaaDoor
open Go.RowKit
set_option linter.unusedVariables false
set_option linter.unusedSimpArgs false
set_option maxRecDepth 100000

theorem wfoot_old {w : World} {p : Nat} {bs : List UInt8} (h : Wr w p bs) {k : Nat} (hf : wfoot w p k) : k < w.heap.size := by
  obtain ⟨v, hp, hown⟩ := h
  rcases hf with rfl | ⟨u, hu, hk⟩
  · exact lt_of_heap hp
  · rw [cell_of_block hp] at hu
    simp at hu; subst hu
    rcases hown.2 with ⟨rfl, _⟩ | ⟨g, cap, cur, rfl, _, hg, _⟩
    · simp [Value.ownBlock] at hk
    · simp only [Value.ownBlock, Option.some.injEq] at hk
      subst hk; exact lt_of_heap hg
/-- A Writer whose blocks were not touched. -/
theorem Wr.keep {S : Nat → Prop} {w w' : World} {p : Nat} {bs : List UInt8} (h : Wr w p bs) (hT : Touch S w w') (hS : ∀ k, wfoot w p k → ¬ S k) : Wr w' p bs := by
  obtain ⟨v, hp, hown⟩ := h
  have hlt := lt_of_heap hp
  refine ⟨v, (hT.block p hlt (hS p (.inl rfl))).trans hp, hown.1, ?_⟩
  rcases hown.2 with h | ⟨g, cap, cur, rfl, hB, hg, hr⟩
  · exact .inl h
  · refine .inr ⟨g, cap, cur, rfl, hB, ?_, hr⟩
    rw [hT.block g (lt_of_heap hg) (hS g (.inr ⟨_, by rw [cell_of_block hp]; rfl, rfl⟩))]
    exact hg
theorem wfoot_keep {S : Nat → Prop} {w w' : World} {p : Nat} {bs : List UInt8} (h : Wr w p bs) (hT : Touch S w w') (hS : ¬ S p) (k : Nat) : wfoot w' p k ↔ wfoot w p k := by
  obtain ⟨v, hp, hown⟩ := h
  unfold wfoot
  rw [hT.cell (lt_of_heap hp) hS 0]
/-- Behind a call that touched nothing old, then calls on the Writer. -/
theorem WrPost.after {w w1 w2 : World} {p : Nat} {bs cs : List UInt8} (h : Wr w p bs) (hT : Touch (fun _ => False) w w1) (k : WrPost p cs w1 w2) : WrPost p cs w w2 :=
  ⟨k.is, (hT.mono (T := wfoot w p) (fun _ _ h => False.elim h)).then k.touch (fun i hi hf => (wfoot_keep h hT id i).1 hf), fun i hi hf => (wfoot_keep h hT id i).1 (k.foot i (Nat.lt_of_lt_of_le hi hT.size) hf)⟩
/-- Behind calls on the Writer, a call that touched nothing old. -/
theorem WrPost.quiet {w w1 w2 : World} {p : Nat} {cs : List UInt8} (k : WrPost p cs w w1) (hT : Touch (fun _ => False) w1 w2) : WrPost p cs w w2 :=
  ⟨k.is.keep hT (fun _ _ => id), k.touch.then (hT.mono (T := wfoot w p) fun _ _ h => False.elim h) (fun _ _ h => h), fun i hi hf => k.foot i hi ((wfoot_keep k.is hT id i).1 hf)⟩

/-- What is written of a value. -/
def writeOf (v : V) : List UInt8 := UInt8.ofNat v.k.toNat :: (if v.k = 1 then [UInt8.ofNat v.n.toNat] else if v.k = 2 then putU (unzz v.n) else if v.k = 3 then putF (refBits v.f) else if v.k = 4 then putT v.s else [])

set_option maxHeartbeats 1000000 in
theorem v_write_null (p : Nat) (bs : List UInt8) (n : Int) (f : Nat) (s : ByteArray) (w : World) (h : Wr w p bs) (hl : bs.length + 20 + s.size ≤ 140737488355328) :
    Calls Tryd.prog 21 #[.pointer (some ⟨p, 0, none⟩), .agg #[.int .i64 0, .int .i64 n, .float .f64 f, .string s]] w fun e w' => e = .returned (.tuple #[]) ∧ WrPost p (bs ++ [0]) w w' := by
  have hlt := h.lt
  have hT0 : Touch (fun _ => False) w (w.alloc (.cells #[.int .i64 0, .int .i64 n, .float .f64 f, .string s] 24)) := (Touch.refl _ _).alloc _
  have h0 := h.keep hT0 (fun _ _ => id)
  have HW : Hid (Wr w p bs) := h
  have HW0 : Hid (Wr (w.alloc (.cells #[.int .i64 0, .int .i64 n, .float .f64 f, .string s] 24)) p bs) := h0
  have HT0 : Hid (Touch (fun _ => False) w (w.alloc (.cells #[.int .i64 0, .int .i64 n, .float .f64 f, .string s] 24))) := hT0
  clear h h0 hT0
  go_enter Tryd.func21, Tryd.ntmps21
  go_wp2_with fail
  refine (wbyte_any p bs 0 0 rfl _ HW0.out (by omega)).mono ?_
  rintro e w1 ⟨rfl, hP⟩
  have hb : w1.heap[w.heap.size]? = some (.cells #[.int .i64 0, .int .i64 n, .float .f64 f, .string s] 24) := by
    rw [hP.touch.block _ (by simp) (fun hf => by have := wfoot_old HW.out ((wfoot_keep HW.out HT0.out id _).1 hf); omega)]
    exact heap_alloc_new _ _
  have c0 : w1.cell? ⟨w.heap.size, 0, none⟩ = some (.int .i64 0) := by rw [cell_of_block hb]; rfl
  have c1 : w1.cell? ⟨w.heap.size, 1, none⟩ = some (.int .i64 n) := by rw [cell_of_block hb]; rfl
  have c2 : w1.cell? ⟨w.heap.size, 2, none⟩ = some (.float .f64 f) := by rw [cell_of_block hb]; rfl
  have c3 : w1.cell? ⟨w.heap.size, 3, none⟩ = some (.string s) := by rw [cell_of_block hb]; rfl
  have HP : Hid (WrPost p (bs ++ [0]) w w1) := WrPost.after HW.out HT0.out hP
  clear hP hb HW HW0 HT0
  go_wp2_with fail
  go_end0
  exact ⟨rfl, HP.out⟩

set_option maxHeartbeats 1000000 in
theorem v_write_map (p : Nat) (bs : List UInt8) (n : Int) (f : Nat) (s : ByteArray) (w : World) (h : Wr w p bs) (hl : bs.length + 20 + s.size ≤ 140737488355328) :
    Calls Tryd.prog 21 #[.pointer (some ⟨p, 0, none⟩), .agg #[.int .i64 5, .int .i64 n, .float .f64 f, .string s]] w fun e w' => e = .returned (.tuple #[]) ∧ WrPost p (bs ++ [5]) w w' := by
  have hlt := h.lt
  have hT0 : Touch (fun _ => False) w (w.alloc (.cells #[.int .i64 5, .int .i64 n, .float .f64 f, .string s] 24)) := (Touch.refl _ _).alloc _
  have h0 := h.keep hT0 (fun _ _ => id)
  have HW : Hid (Wr w p bs) := h
  have HW0 : Hid (Wr (w.alloc (.cells #[.int .i64 5, .int .i64 n, .float .f64 f, .string s] 24)) p bs) := h0
  have HT0 : Hid (Touch (fun _ => False) w (w.alloc (.cells #[.int .i64 5, .int .i64 n, .float .f64 f, .string s] 24))) := hT0
  clear h h0 hT0
  go_enter Tryd.func21, Tryd.ntmps21
  go_wp2_with fail
  refine (wbyte_any p bs 5 5 rfl _ HW0.out (by omega)).mono ?_
  rintro e w1 ⟨rfl, hP⟩
  have hb : w1.heap[w.heap.size]? = some (.cells #[.int .i64 5, .int .i64 n, .float .f64 f, .string s] 24) := by
    rw [hP.touch.block _ (by simp) (fun hf => by have := wfoot_old HW.out ((wfoot_keep HW.out HT0.out id _).1 hf); omega)]
    exact heap_alloc_new _ _
  have c0 : w1.cell? ⟨w.heap.size, 0, none⟩ = some (.int .i64 5) := by rw [cell_of_block hb]; rfl
  have c1 : w1.cell? ⟨w.heap.size, 1, none⟩ = some (.int .i64 n) := by rw [cell_of_block hb]; rfl
  have c2 : w1.cell? ⟨w.heap.size, 2, none⟩ = some (.float .f64 f) := by rw [cell_of_block hb]; rfl
  have c3 : w1.cell? ⟨w.heap.size, 3, none⟩ = some (.string s) := by rw [cell_of_block hb]; rfl
  have HP : Hid (WrPost p (bs ++ [5]) w w1) := WrPost.after HW.out HT0.out hP
  clear hP hb HW HW0 HT0
  go_wp2_with fail
  go_end0
  exact ⟨rfl, HP.out⟩

set_option maxHeartbeats 1000000 in
theorem v_write_bool (p : Nat) (bs : List UInt8) (n : Int) (f : Nat) (s : ByteArray) (hn : n = 0 ∨ n = 1) (w : World) (h : Wr w p bs) (hl : bs.length + 20 + s.size ≤ 140737488355328) :
    Calls Tryd.prog 21 #[.pointer (some ⟨p, 0, none⟩), .agg #[.int .i64 1, .int .i64 n, .float .f64 f, .string s]] w fun e w' => e = .returned (.tuple #[]) ∧ WrPost p (bs ++ ([1] ++ [UInt8.ofNat n.toNat])) w w' := by
  have hw : IntKind.u8.wrap n = (((UInt8.ofNat n.toNat).toNat : Nat) : Int) := by
    rcases hn with e | e <;> subst e <;> decide
  generalize UInt8.ofNat n.toNat = B at *
  clear hn
  have hlt := h.lt
  have hT0 : Touch (fun _ => False) w (w.alloc (.cells #[.int .i64 1, .int .i64 n, .float .f64 f, .string s] 24)) := (Touch.refl _ _).alloc _
  have h0 := h.keep hT0 (fun _ _ => id)
  have HW : Hid (Wr w p bs) := h
  have HW0 : Hid (Wr (w.alloc (.cells #[.int .i64 1, .int .i64 n, .float .f64 f, .string s] 24)) p bs) := h0
  have HT0 : Hid (Touch (fun _ => False) w (w.alloc (.cells #[.int .i64 1, .int .i64 n, .float .f64 f, .string s] 24))) := hT0
  clear h h0 hT0
  go_enter Tryd.func21, Tryd.ntmps21
  go_wp2_with fail
  refine (wbyte_any p bs 1 1 rfl _ HW0.out (by omega)).mono ?_
  rintro e w1 ⟨rfl, hP⟩
  have hb : w1.heap[w.heap.size]? = some (.cells #[.int .i64 1, .int .i64 n, .float .f64 f, .string s] 24) := by
    rw [hP.touch.block _ (by simp) (fun hf => by have := wfoot_old HW.out ((wfoot_keep HW.out HT0.out id _).1 hf); omega)]
    exact heap_alloc_new _ _
  have c0 : w1.cell? ⟨w.heap.size, 0, none⟩ = some (.int .i64 1) := by rw [cell_of_block hb]; rfl
  have c1 : w1.cell? ⟨w.heap.size, 1, none⟩ = some (.int .i64 n) := by rw [cell_of_block hb]; rfl
  have c2 : w1.cell? ⟨w.heap.size, 2, none⟩ = some (.float .f64 f) := by rw [cell_of_block hb]; rfl
  have c3 : w1.cell? ⟨w.heap.size, 3, none⟩ = some (.string s) := by rw [cell_of_block hb]; rfl
  have HP : Hid (WrPost p (bs ++ [1]) w w1) := WrPost.after HW.out HT0.out hP
  clear hP hb HW HW0 HT0
  go_wp2_with fail
  refine (wbyte_any p _ B _ (by first | exact hw | rfl) _ HP.out.is (by rw [List.length_append, List.length_singleton]; omega)).mono ?_
  rintro e w2 ⟨rfl, hP2⟩
  have HP2 : Hid (WrPost p (bs ++ ([1] ++ [B])) w w2) := by
    have h := HP.out.trans hP2
    rw [List.append_assoc] at h
    exact h
  clear hP2 HP c0 c1 c2 c3
  go_wp2_with fail
  go_end0
  exact ⟨rfl, HP2.out⟩

set_option maxHeartbeats 1000000 in
theorem v_write_int (p : Nat) (bs : List UInt8) (n : Int) (f : Nat) (s : ByteArray) (h0 : -9223372036854775808 ≤ n) (h1 : n < 9223372036854775808) (w : World) (h : Wr w p bs) (hl : bs.length + 20 + s.size ≤ 140737488355328) :
    Calls Tryd.prog 21 #[.pointer (some ⟨p, 0, none⟩), .agg #[.int .i64 2, .int .i64 n, .float .f64 f, .string s]] w fun e w' => e = .returned (.tuple #[]) ∧ WrPost p (bs ++ ([2] ++ putU (unzz n))) w w' := by
  have hlt := h.lt
  have hT0 : Touch (fun _ => False) w (w.alloc (.cells #[.int .i64 2, .int .i64 n, .float .f64 f, .string s] 24)) := (Touch.refl _ _).alloc _
  have h0 := h.keep hT0 (fun _ _ => id)
  have HW : Hid (Wr w p bs) := h
  have HW0 : Hid (Wr (w.alloc (.cells #[.int .i64 2, .int .i64 n, .float .f64 f, .string s] 24)) p bs) := h0
  have HT0 : Hid (Touch (fun _ => False) w (w.alloc (.cells #[.int .i64 2, .int .i64 n, .float .f64 f, .string s] 24))) := hT0
  clear h h0 hT0
  go_enter Tryd.func21, Tryd.ntmps21
  go_wp2_with fail
  refine (wbyte_any p bs 2 2 rfl _ HW0.out (by omega)).mono ?_
  rintro e w1 ⟨rfl, hP⟩
  have hb : w1.heap[w.heap.size]? = some (.cells #[.int .i64 2, .int .i64 n, .float .f64 f, .string s] 24) := by
    rw [hP.touch.block _ (by simp) (fun hf => by have := wfoot_old HW.out ((wfoot_keep HW.out HT0.out id _).1 hf); omega)]
    exact heap_alloc_new _ _
  have c0 : w1.cell? ⟨w.heap.size, 0, none⟩ = some (.int .i64 2) := by rw [cell_of_block hb]; rfl
  have c1 : w1.cell? ⟨w.heap.size, 1, none⟩ = some (.int .i64 n) := by rw [cell_of_block hb]; rfl
  have c2 : w1.cell? ⟨w.heap.size, 2, none⟩ = some (.float .f64 f) := by rw [cell_of_block hb]; rfl
  have c3 : w1.cell? ⟨w.heap.size, 3, none⟩ = some (.string s) := by rw [cell_of_block hb]; rfl
  have HP : Hid (WrPost p (bs ++ [2]) w w1) := WrPost.after HW.out HT0.out hP
  clear hP hb HW HW0 HT0
  go_wp2_with fail
  refine (wint_any p _ n h0 h1 _ HP.out.is (by rw [List.length_append, List.length_singleton]; omega)).mono ?_
  rintro e w2 ⟨rfl, hP2⟩
  have HP2 : Hid (WrPost p (bs ++ ([2] ++ putU (unzz n))) w w2) := by
    have h := HP.out.trans hP2
    rw [List.append_assoc] at h
    exact h
  clear hP2 HP c0 c1 c2 c3
  go_wp2_with fail
  go_end0
  exact ⟨rfl, HP2.out⟩

set_option maxHeartbeats 1000000 in
theorem v_write_float (p : Nat) (bs : List UInt8) (n : Int) (f : Nat) (s : ByteArray) (hf : f < 18446744073709551616) (w : World) (h : Wr w p bs) (hl : bs.length + 20 + s.size ≤ 140737488355328) :
    Calls Tryd.prog 21 #[.pointer (some ⟨p, 0, none⟩), .agg #[.int .i64 3, .int .i64 n, .float .f64 f, .string s]] w fun e w' => e = .returned (.tuple #[]) ∧ WrPost p (bs ++ ([3] ++ putF (refBits f))) w w' := by
  have hb := f64bits_run
  have HN : Hid (∀ w, Calls Tryd.prog 37 #[.float .f64 f] w fun e w' => e = .returned (.float .f64 (refBits f)) ∧ w' = w) := v_oneNaN f
  have hg : refBits f < 18446744073709551616 := by
    unfold refBits; split
    · decide
    · exact hf
  generalize refBits f = g at *
  have hlt := h.lt
  have hT0 : Touch (fun _ => False) w (w.alloc (.cells #[.int .i64 3, .int .i64 n, .float .f64 f, .string s] 24)) := (Touch.refl _ _).alloc _
  have h0 := h.keep hT0 (fun _ _ => id)
  have HW : Hid (Wr w p bs) := h
  have HW0 : Hid (Wr (w.alloc (.cells #[.int .i64 3, .int .i64 n, .float .f64 f, .string s] 24)) p bs) := h0
  have HT0 : Hid (Touch (fun _ => False) w (w.alloc (.cells #[.int .i64 3, .int .i64 n, .float .f64 f, .string s] 24))) := hT0
  clear h h0 hT0
  go_enter Tryd.func21, Tryd.ntmps21
  go_wp2_with fail
  refine (wbyte_any p bs 3 3 rfl _ HW0.out (by omega)).mono ?_
  rintro e w1 ⟨rfl, hP⟩
  have hb : w1.heap[w.heap.size]? = some (.cells #[.int .i64 3, .int .i64 n, .float .f64 f, .string s] 24) := by
    rw [hP.touch.block _ (by simp) (fun hf => by have := wfoot_old HW.out ((wfoot_keep HW.out HT0.out id _).1 hf); omega)]
    exact heap_alloc_new _ _
  have c0 : w1.cell? ⟨w.heap.size, 0, none⟩ = some (.int .i64 3) := by rw [cell_of_block hb]; rfl
  have c1 : w1.cell? ⟨w.heap.size, 1, none⟩ = some (.int .i64 n) := by rw [cell_of_block hb]; rfl
  have c2 : w1.cell? ⟨w.heap.size, 2, none⟩ = some (.float .f64 f) := by rw [cell_of_block hb]; rfl
  have c3 : w1.cell? ⟨w.heap.size, 3, none⟩ = some (.string s) := by rw [cell_of_block hb]; rfl
  have HP : Hid (WrPost p (bs ++ [3]) w w1) := WrPost.after HW.out HT0.out hP
  clear hP hb HW HW0 HT0
  go_wp2_with fail
  refine (HN.out _).mono ?_
  rintro e w9 ⟨rfl, hw9⟩
  rw [hw9]
  clear hw9
  go_wp2_with fail
  refine (wfixed_any p _ g hg _ HP.out.is (by rw [List.length_append, List.length_singleton]; omega)).mono ?_
  rintro e w2 ⟨rfl, hP2⟩
  have HP2 : Hid (WrPost p (bs ++ ([3] ++ putF g)) w w2) := by
    have h := HP.out.trans hP2
    rw [List.append_assoc] at h
    exact h
  clear hP2 HP c0 c1 c2 c3
  go_wp2_with fail
  go_end0
  exact ⟨rfl, HP2.out⟩

set_option maxHeartbeats 1000000 in
theorem v_write_text (p : Nat) (bs : List UInt8) (n : Int) (f : Nat) (s : ByteArray) (w : World) (h : Wr w p bs) (hl : bs.length + 20 + s.size ≤ 140737488355328) :
    Calls Tryd.prog 21 #[.pointer (some ⟨p, 0, none⟩), .agg #[.int .i64 4, .int .i64 n, .float .f64 f, .string s]] w fun e w' => e = .returned (.tuple #[]) ∧ WrPost p (bs ++ ([4] ++ putT s)) w w' := by
  have hlt := h.lt
  have hT0 : Touch (fun _ => False) w (w.alloc (.cells #[.int .i64 4, .int .i64 n, .float .f64 f, .string s] 24)) := (Touch.refl _ _).alloc _
  have h0 := h.keep hT0 (fun _ _ => id)
  have HW : Hid (Wr w p bs) := h
  have HW0 : Hid (Wr (w.alloc (.cells #[.int .i64 4, .int .i64 n, .float .f64 f, .string s] 24)) p bs) := h0
  have HT0 : Hid (Touch (fun _ => False) w (w.alloc (.cells #[.int .i64 4, .int .i64 n, .float .f64 f, .string s] 24))) := hT0
  clear h h0 hT0
  go_enter Tryd.func21, Tryd.ntmps21
  go_wp2_with fail
  refine (wbyte_any p bs 4 4 rfl _ HW0.out (by omega)).mono ?_
  rintro e w1 ⟨rfl, hP⟩
  have hb : w1.heap[w.heap.size]? = some (.cells #[.int .i64 4, .int .i64 n, .float .f64 f, .string s] 24) := by
    rw [hP.touch.block _ (by simp) (fun hf => by have := wfoot_old HW.out ((wfoot_keep HW.out HT0.out id _).1 hf); omega)]
    exact heap_alloc_new _ _
  have c0 : w1.cell? ⟨w.heap.size, 0, none⟩ = some (.int .i64 4) := by rw [cell_of_block hb]; rfl
  have c1 : w1.cell? ⟨w.heap.size, 1, none⟩ = some (.int .i64 n) := by rw [cell_of_block hb]; rfl
  have c2 : w1.cell? ⟨w.heap.size, 2, none⟩ = some (.float .f64 f) := by rw [cell_of_block hb]; rfl
  have c3 : w1.cell? ⟨w.heap.size, 3, none⟩ = some (.string s) := by rw [cell_of_block hb]; rfl
  have HP : Hid (WrPost p (bs ++ [4]) w w1) := WrPost.after HW.out HT0.out hP
  clear hP hb HW HW0 HT0
  go_wp2_with fail
  refine (wtext_any p _ s _ HP.out.is (by rw [List.length_append, List.length_singleton]; omega)).mono ?_
  rintro e w2 ⟨rfl, hP2⟩
  have HP2 : Hid (WrPost p (bs ++ ([4] ++ putT s)) w w2) := by
    have h := HP.out.trans hP2
    rw [List.append_assoc] at h
    exact h
  clear hP2 HP c0 c1 c2 c3
  go_wp2_with fail
  go_end0
  exact ⟨rfl, HP2.out⟩


/-- A value that is taken, as Write asks of it. -/
structure V.good (v : V) : Prop where
  fit : v.fits
  kind : v.k = 0 ∨ v.k = 1 ∨ v.k = 2 ∨ v.k = 3 ∨ v.k = 4 ∨ v.k = 5
  bool : v.k = 1 → v.n = 0 ∨ v.n = 1
theorem v_write (p : Nat) (bs : List UInt8) (v : V) (hv : v.good) (w : World) (h : Wr w p bs) (hl : bs.length + 20 + v.s.size ≤ 140737488355328) :
    Calls Tryd.prog 21 #[.pointer (some ⟨p, 0, none⟩), v.val] w fun e w' => e = .returned (.tuple #[]) ∧ WrPost p (bs ++ writeOf v) w w' := by
  obtain ⟨fit, kind, bool⟩ := hv
  obtain ⟨k, n, f, s⟩ := v
  simp only at *
  rcases kind with e | e | e | e | e | e <;> subst e
  · exact v_write_null p bs n f s w h hl
  · exact v_write_bool p bs n f s (bool rfl) w h hl
  · exact v_write_int p bs n f s fit.n0 fit.n1 w h hl
  · exact v_write_float p bs n f s fit.f1 w h hl
  · exact v_write_text p bs n f s w h hl
  · exact v_write_map p bs n f s w h hl
end Go.Proofs.YtaihofkmcpcjeaaDoor

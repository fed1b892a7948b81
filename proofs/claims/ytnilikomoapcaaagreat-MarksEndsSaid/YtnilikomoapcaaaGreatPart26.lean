/- The rows of marks that All fills, beside slices and boxes of other types. -/
import Derived.Test.YtnilikomoapcaaaGreatPart19
import Derived.Test.YtnilikomoapcaaaGreatPart25
import Derived.Test.YtnilikomoapcaaaGreatPart18
import Derived.Laws.BitsAllLaws
namespace Go.Proofs.YtnilikomoapcaaaGreat
open Go.RowKit Go.Maps
set_option linter.unusedVariables false
set_option linter.unusedSimpArgs false

/-- Blocks of other types than marks' stay as they are. -/
def KeepT (W W' : World) : Prop := ∀ (b : Nat) (c : Array Value) (T : TypeId) (fr : Nat × Nat), W.heap[b]? = some (.cells c T fr) → T ≠ 55 → T ≠ 45 → W'.heap[b]? = some (.cells c T fr)
theorem KeepT.refl (W : World) : KeepT W W := fun _ _ _ _ h _ _ => h
theorem KeepT.trans {A B C : World} (h : KeepT A B) (k : KeepT B C) : KeepT A C := fun b c T fr e h1 h2 => k b c T fr (h b c T fr e h1 h2) h1 h2
theorem KeepT.of {A B : World} (t : Touch (fun _ => False) A B) : KeepT A B := fun b c T fr e _ _ => heap_keep t e
theorem OutM.typ {w W : World} {g n : Nat} {M : Nat → List Mk} {vs : Nat → Value} (h : OutM w W g n M vs) {b : Nat} {c : Array Value} {T : TypeId} {fr : Nat × Nat} (hb : W.heap[b]? = some (.cells c T fr)) (h1 : T ≠ 55) (h2 : T ≠ 45) : b ≠ g ∧ ∀ i, i < n → (vs i).ownBlock ≠ some b := by
  refine ⟨fun e => ?_, fun i hi e => ?_⟩
  · subst e
    obtain ⟨c', hc, _⟩ := h.blk
    rw [hb] at hc
    simp at hc
    exact h2 hc.2.1
  · rcases (h.own i hi).2 with ⟨e', _⟩ | ⟨k, cap, cur, e', _, hg, _⟩
    · rw [e'] at e; simp [Value.ownBlock] at e
    · rw [e'] at e
      have hk : k = b := by simpa [Value.ownBlock] using e
      rw [hk, hb] at hg
      simp at hg
      exact h1 hg.2.1
/-- One more mark at a place. -/
theorem OutM.app2 {w W V : World} {g n : Nat} {M : Nat → List Mk} {vs : Nat → Value} (h : OutM w W g n M vs) {i : Nat} (hi : i < n) (m : Mk) (hlen : (M i).length ≤ 1073741824) (tV : Touch (fun _ => False) W V) :
    ∃ v' w', (Builtin.append_ #[45, 45] 45 #[vs i, .slice (some ⟨V.heap.size, 0, none⟩) 1 1]).run Tryz.prog (V.alloc (myO m)) = .ok v' w' ∧ w'.cell? ⟨g, i, none⟩ = some (vs i) ∧ w'.frozen? ⟨g, i, none⟩ = false ∧ KeepT W w' ∧ KeepT W (w'.setCell ⟨g, i, none⟩ v') ∧
      OutM w (w'.setCell ⟨g, i, none⟩ v') g n (fun k => if k = i then M i ++ [m] else M k) (fun k => if k = i then v' else vs k) := by
  have hV := h.keep tV
  obtain ⟨v', w', hrun, hgw, t1, ho⟩ := hV.app hi m hlen
  obtain ⟨c, hc1, hc2, hc3⟩ := hV.blk
  have hg' : w'.heap[g]? = some (.cells c 45 (0, 0)) := hgw.trans hc1
  have k1 : KeepT W w' := (KeepT.of tV).trans fun b c T fr e h1 h2 => (t1.block b (lt_of_heap e) ((hV.typ e h1 h2).2 i hi)).trans e
  refine ⟨v', w', hrun, by rw [cell_of_block hg']; exact hc3 i hi, free_of_block hg', k1, k1.trans fun b c T fr e h1 h2 => ?_, ho⟩
  have hne : b ≠ g := fun e2 => by
    subst e2
    rw [hg'] at e
    simp at e
    exact h2 e.2.1.symm
  have tg : Touch (fun k => k = g) w' (w'.setCell ⟨g, i, none⟩ v') := (Touch.refl (fun k => k = g) w').setCell ⟨g, i, none⟩ v' fun _ => rfl
  exact (tg.block b (lt_of_heap e) hne).trans e
theorem OutM.since {w0 w W : World} {g n : Nat} {M : Nat → List Mk} {vs : Nat → Value} (h : OutM w W g n M vs) (t : Touch (fun _ => False) w0 w) : OutM w0 W g n M vs :=
  ⟨h.blk, h.own, h.apart, fun i k hi hk => ⟨Nat.le_trans t.size (h.fresh i k hi hk).1, (h.fresh i k hi hk).2⟩, h.no, Nat.le_trans t.size h.new, t.trans h.t⟩
theorem OutM.congr {w W : World} {g n : Nat} {M M' : Nat → List Mk} {vs : Nat → Value} (h : OutM w W g n M vs) (e : ∀ i, i < n → M' i = M i) : OutM w W g n M' vs :=
  ⟨h.blk, fun i hi => by rw [e i hi]; exact h.own i hi, h.apart, h.fresh, h.no, h.new, h.t⟩
/-- The loop's record is taken back. -/
theorem OutM.putD {w W : World} {g n D : Nat} {M : Nat → List Mk} {vs : Nat → Value} {o o' : Obj} (h : OutM w W g n M vs) (hD : W.heap[D]? = some o) (hno : ∀ c T fr, o ≠ .cells c T fr) (hl : w.heap.size ≤ D) : OutM w (W.putObj D o') g n M vs := by
  have t : Touch (fun k => k = D) W (W.putObj D o') := (Touch.refl _ W).putObj _ _ fun _ => rfl
  obtain ⟨c, h1, h2, h3⟩ := h.blk
  have hg : g ≠ D := fun e => by
    subst e
    rw [hD] at h1
    exact hno _ _ _ (Option.some.inj h1)
  refine ⟨⟨c, (t.block _ (lt_of_heap h1) hg).trans h1, h2, h3⟩, fun i hi => ownY_touch (h.own i hi) t fun b hb e => ?_, h.apart, fun i k hi hk => ⟨(h.fresh i k hi hk).1, Nat.lt_of_lt_of_le (h.fresh i k hi hk).2 t.size⟩, h.no, h.new, h.t.then t fun k hk e => by omega⟩
  rcases (h.own i hi).2 with ⟨e', _⟩ | ⟨k, cap, cur, e', _, hgg, _⟩
  · rw [e'] at hb; simp [Value.ownBlock] at hb
  · rw [e'] at hb
    have hk : k = b := by simpa [Value.ownBlock] using hb
    rw [hk, e, hD] at hgg
    exact hno _ _ _ (Option.some.inj hgg)
end Go.Proofs.YtnilikomoapcaaaGreat

/- Package marks: what All makes of spans that won, as a function (no Go in it). -/
namespace Go.Proofs.YtnilikomoapcaaaGreat
open Go.RowKit Go.Maps
set_option linter.unusedVariables false
set_option linter.unusedSimpArgs false

/-- What one span shows at a place. -/
def sh1 (m : Spn) (i : Nat) : List Mk := if (m.o.vk == 0) = false ∧ m.f ≤ (i : Int) ∧ (i : Int) < m.t then [mk m.o] else []
def shM (ms : List Spn) (i : Nat) : List Mk := ms.flatMap fun m => sh1 m i
def allF (wl : Key → List Spn) (ks : List Key) (i : Nat) : List Mk := ks.flatMap fun k => shM (wl k) i
theorem shM_take {ms : List Spn} {j : Nat} (h : j < ms.length) (i : Nat) : shM (ms.take (j + 1)) i = shM (ms.take j) i ++ sh1 ms[j] i := by
  unfold shM
  rw [List.take_succ_eq_append_getElem h, List.flatMap_append]
  simp
theorem allF_take (wl : Key → List Spn) {ks : List Key} {j : Nat} (h : j < ks.length) (i : Nat) : allF wl (ks.take (j + 1)) i = allF wl (ks.take j) i ++ shM (wl ks[j]) i := by
  unfold allF
  rw [List.take_succ_eq_append_getElem h, List.flatMap_append]
  simp
theorem sh1_len (m : Spn) (i : Nat) : (sh1 m i).length ≤ 1 := by
  unfold sh1
  split <;> simp
theorem shM_len (ms : List Spn) (i : Nat) : (shM ms i).length ≤ ms.length := by
  induction ms with
  | nil => exact Nat.le_refl _
  | cons m r ih =>
    have := sh1_len m i
    simp only [shM, List.flatMap_cons, List.length_append, List.length_cons] at ih ⊢
    omega
theorem allF_len (wl : Key → List Spn) {B : Nat} (hB : ∀ k, (wl k).length ≤ B) (ks : List Key) (i : Nat) : (allF wl ks i).length ≤ ks.length * B := by
  induction ks with
  | nil => simp [allF]
  | cons k r ih =>
    have h1 := shM_len (wl k) i
    have h2 := hB k
    simp only [allF, List.flatMap_cons, List.length_append, List.length_cons] at ih ⊢
    rw [Nat.succ_mul]
    omega
/-- Of a span, as far as c. -/
def shC (m : Spn) (c : Nat) (i : Nat) : List Mk := if m.f ≤ (i : Int) ∧ (i : Int) < (c : Int) then [mk m.o] else []
theorem shC_0 (m : Spn) (c i : Nat) (h : (c : Int) ≤ m.f) : shC m c i = [] := by
  unfold shC
  rw [if_neg]
  omega
theorem shC_at (m : Spn) (c : Nat) (h : m.f ≤ (c : Int)) : shC m (c + 1) c = [mk m.o] ∧ shC m c c = [] := by
  unfold shC
  refine ⟨by rw [if_pos]; omega, by rw [if_neg]; omega⟩
theorem shC_other (m : Spn) (c i : Nat) (h : i ≠ c) : shC m (c + 1) i = shC m c i := by
  unfold shC
  by_cases hh : m.f ≤ (i : Int) ∧ (i : Int) < (c : Int)
  · rw [if_pos hh, if_pos]; omega
  · rw [if_neg hh, if_neg]; omega
theorem shC_end (m : Spn) (c i : Nat) (h : (c : Int) = m.t) (hs : (m.o.vk == 0) = false) : shC m c i = sh1 m i := by
  unfold shC sh1
  rw [h]
  simp [hs]
theorem sh1_null (m : Spn) (i : Nat) (h : (m.o.vk == 0) = true) : sh1 m i = [] := by
  unfold sh1
  rw [if_neg]
  rw [h]
  simp
theorem getV_at {es : List (Key × Value)} (h : Rising es) {j : Nat} (hj : j < es.length) : getV es[j].1 es = es[j].2 := by
  have e : aget es[j].1 es = some es[j].2 := aget_of_mem h (List.getElem_mem hj)
  unfold getV
  rw [e]
  rfl
theorem ownY_shape {W : World} {v : Value} {n : Nat} {xs : List Value} (h : W.ownsRow 0 55 5 v n xs) : ∃ a l c, v = .slice a l c := by
  rcases h.2 with ⟨e, _⟩ | ⟨g, cap, cur, e, _⟩
  · exact ⟨_, _, _, e⟩
  · exact ⟨_, _, _, e⟩
theorem cellsX_at : ∀ (l : List Spn) (j : Nat) (h : j < l.length) (i : Nat) (u : Value), (l[j].vals.toList)[i]? = some u → (cellsX l)[j * 24 + i]? = some u
  | f :: r, 0, _, i, u, hu => by
    have hi : i < 24 := by
      rcases Nat.lt_or_ge i 24 with h | h
      · exact h
      · rw [List.getElem?_eq_none (by simpa using h)] at hu; cases hu
    show (cellX f ++ cellsX r)[0 * 24 + i]? = some u
    rw [Nat.zero_mul, Nat.zero_add, List.getElem?_append_left (by simpa [cellX] using hi)]
    exact hu
  | f :: r, j + 1, h, i, u, hu => by
    have ih := cellsX_at r j (by simpa using h) i u hu
    show (cellX f ++ cellsX r)[(j + 1) * 24 + i]? = some u
    rw [List.getElem?_append_right (by simp [cellX]; omega)]
    have : (j + 1) * 24 + i - (cellX f).length = j * 24 + i := by simp [cellX]; omega
    rw [this]
    exact ih
/-- A slice of spans that a call made, and what keeps its block. -/
theorem NewX.kept {W W6 : World} {v : Value} {ms : List Spn} (h : NewX W W6 v ms) (hne : 0 < ms.length) : ∃ gv cap, v = .slice (some ⟨gv, 0, none⟩) ms.length cap ∧ ∀ W', KeepT W6 W' → ∀ j (hj : j < ms.length), W'.rangeAt gv (j * 24) ms[j].vals.toList := by
  rcases h.owns.2 with ⟨e, h0⟩ | ⟨g, cap, cur, e, hb, hg, q1, q2, q3, q4⟩
  · omega
  · refine ⟨g, cap, e, fun W' hk j hj i u hu => ?_⟩
    have hg' := hk _ _ _ _ hg (by decide) (by decide)
    rw [cell_of_block hg']
    have h1 := cellsX_at ms j hj i u hu
    rw [← q4, List.getElem?_take] at h1
    split at h1
    · rw [← Array.getElem?_toList]; exact h1
    · cases h1
end Go.Proofs.YtnilikomoapcaaaGreat

/- The contracts of value's isNaN, oneNaN, floatRank, and of cmp.Compare, cmp.Or as value calls them. -/
namespace Go.Proofs.YtnilikomoapcaaaGreat
open Go.RowKit
set_option linter.unusedVariables false
set_option maxRecDepth 100000

set_option maxHeartbeats 400000 in
theorem v_isNaN (f : Nat) (w : World) : Calls Tryz.prog 114 #[.float .f64 f] w fun e w' => e = .returned (.bool (isNaN f)) ∧ w' = w := by
  have h2 := self_neq f
  go_enter Tryz.func114, Tryz.ntmps114
  go_wp2
  go_ret
  exact ⟨rfl, rfl⟩

set_option maxHeartbeats 400000 in
theorem v_oneNaN (f : Nat) (w : World) : Calls Tryz.prog 87 #[.float .f64 f] w fun e w' => e = .returned (.float .f64 (refBits f)) ∧ w' = w := by
  have h1 : ∀ w, (callFunc 115 #[.int .u64 9221120237041090560]).run Tryz.prog w = .ok (.value (.float .f64 9221120237041090560)) w := fun w => f64frombits_run 9221120237041090560 w
  have HE : Hid (refBits f = if isNaN f then nanBits else f) := rfl
  generalize refBits f = R at *
  go_enter Tryz.func87, Tryz.ntmps87
  go_wp2_with fail
  refine (v_isNaN f _).mono ?_
  rintro e w1 ⟨rfl, rfl⟩
  cases h : isNaN f
  · have HF : Hid (R = f) := by rw [Hid, HE.out, h]; rfl
    go_wp2_with fail
    go_ret
    exact ⟨congrArg (fun x : Nat => Ending.returned (.float .f64 x)) HF.out.symm, rfl⟩
  · have HF : Hid (R = nanBits) := by rw [Hid, HE.out, h]; rfl
    go_wp2_with fail
    go_ret
    exact ⟨congrArg (fun x : Nat => Ending.returned (.float .f64 x)) HF.out.symm, rfl⟩

theorem nat_and_top (f : Nat) : f &&& 2 ^ 63 = if f.testBit 63 then 2 ^ 63 else 0 := by
  apply Nat.eq_of_testBit_eq
  intro i
  rw [Nat.testBit_and, Nat.testBit_two_pow]
  by_cases h : 63 = i
  · subst h
    cases f.testBit 63
    · rfl
    · rw [if_pos rfl, Nat.testBit_two_pow]; rfl
  · rw [decide_eq_false h, Bool.and_false]
    cases f.testBit 63
    · simp
    · rw [if_pos rfl, Nat.testBit_two_pow, decide_eq_false h]
theorem two63 : (2 : Nat) ^ 63 = 9223372036854775808 := by decide
theorem u64_top_low (f : Nat) (h : f < 9223372036854775808) : bits .and .u64 (f : Int) 9223372036854775808 = 0 := by
  rw [show (9223372036854775808 : Int) = ((2 ^ 63 : Nat) : Int) from by decide, u64_and_nat _ _ (by omega) (by decide), nat_and_top, Nat.testBit_lt_two_pow (by rw [two63]; exact h)]
  rfl
theorem u64_top_high (f : Nat) (h : ¬ f < 9223372036854775808) (h1 : f < 18446744073709551616) : bits .and .u64 (f : Int) 9223372036854775808 = 9223372036854775808 := by
  obtain ⟨g, rfl⟩ : ∃ g, f = 2 ^ 63 + g := ⟨f - 9223372036854775808, by rw [two63]; omega⟩
  rw [two63] at h1
  have hg : g < 2 ^ 63 := by rw [two63]; omega
  rw [show (9223372036854775808 : Int) = ((2 ^ 63 : Nat) : Int) from by decide, u64_and_nat _ _ (by rw [two63]; omega) (by decide), nat_and_top, Nat.testBit_two_pow_add_eq, Nat.testBit_lt_two_pow hg]
  rfl
theorem u64_top_or (f : Nat) (h : f < 9223372036854775808) : bits .or .u64 (f : Int) 9223372036854775808 = (f : Int) + 9223372036854775808 := by
  rw [show (9223372036854775808 : Int) = ((2 ^ 63 : Nat) : Int) from by decide, u64_or_nat _ _ (by omega) (by decide), Nat.or_comm]
  have := Nat.two_pow_add_eq_or_of_lt (i := 63) (b := f) (by rw [two63]; exact h) 1
  rw [Nat.mul_one] at this
  rw [← this, two63]; omega

theorem u64_flip (f : Nat) (h : f < 18446744073709551616) : bits .xor .u64 IntKind.u64.max (f : Int) = 18446744073709551615 - (f : Int) := by
  show IntKind.u64.wrap ((BitVec.ofInt 64 18446744073709551615 ^^^ BitVec.ofInt 64 (f : Int)).toNat : Int) = _
  rw [show BitVec.ofInt 64 18446744073709551615 = BitVec.allOnes 64 from by decide, BitVec.allOnes_xor, BitVec.toNat_not, ofInt_u64 f h, IntKind.wrap_u64]; omega

set_option maxHeartbeats 400000 in
theorem v_rank (f : Nat) (hf : f < 18446744073709551616) (w : World) : Calls Tryz.prog 93 #[.float .f64 f] w fun e w' => e = .returned (.int .u64 (refOrder f + 9223372036854775808)) ∧ w' = w := by
  have h1 := f64bits_run
  have HE : Hid (refOrder f = if isNaN f then 9223372036854775807 else if f < 9223372036854775808 then (f : Int) else 9223372036854775807 - (f : Int)) := rfl
  generalize refOrder f = R at *
  go_enter Tryz.func93, Tryz.ntmps93
  go_wp2_with fail
  refine (v_isNaN f _).mono ?_
  rintro e w1 ⟨rfl, rfl⟩
  cases h : isNaN f
  · by_cases hs : f < 9223372036854775808
    · have HF : Hid (R + 9223372036854775808 = (f : Int) + 9223372036854775808) := by rw [Hid, HE.out, h, if_pos hs]; rfl
      have t1 := u64_top_low f hs
      have t2 := u64_top_or f hs
      clear hs
      go_wp2_with fail
      go_ret
      exact ⟨congrArg (fun x : Int => Ending.returned (.int .u64 x)) HF.out.symm, rfl⟩
    · have HF : Hid (R + 9223372036854775808 = 18446744073709551615 - (f : Int)) := by
        rw [Hid, HE.out, h, if_neg hs]
        simp only [Bool.false_eq_true, if_false]; omega
      have t1 := u64_top_high f hs hf
      have hx := u64_flip f hf
      clear hs
      go_wp2_with fail
      go_ret
      exact ⟨congrArg (fun x : Int => Ending.returned (.int .u64 x)) HF.out.symm, rfl⟩
  · have HF : Hid (R + 9223372036854775808 = 18446744073709551615) := by rw [Hid, HE.out, h]; rfl
    go_wp2_with fail
    go_ret
    exact ⟨congrArg (fun x : Int => Ending.returned (.int .u64 x)) HF.out.symm, rfl⟩

set_option maxHeartbeats 400000 in
theorem cmp_int (a b : Int) (w : World) : Calls Tryz.prog 90 #[.int .i64 a, .int .i64 b] w fun e w' => e = .returned (.int .i64 (refInts a b)) ∧ w' = w := by
  by_cases h1 : a < b
  · have HE : Hid (refInts a b = -1) := by simp [Hid, refInts, h1]
    go_enter Tryz.func90, Tryz.ntmps90
    go_wp2
    go_ret
    exact ⟨congrArg (fun x : Int => Ending.returned (.int .i64 x)) HE.out.symm, rfl⟩
  · by_cases h2 : b < a
    · have HE : Hid (refInts a b = 1) := by simp [Hid, refInts, h1, h2]
      go_enter Tryz.func90, Tryz.ntmps90
      go_wp2
      go_ret
      exact ⟨congrArg (fun x : Int => Ending.returned (.int .i64 x)) HE.out.symm, rfl⟩
    · have HE : Hid (refInts a b = 0) := by simp [Hid, refInts, h1, h2]
      go_enter Tryz.func90, Tryz.ntmps90
      go_wp2
      go_ret
      exact ⟨congrArg (fun x : Int => Ending.returned (.int .i64 x)) HE.out.symm, rfl⟩
set_option maxHeartbeats 400000 in
theorem cmp_int64 (a b : Int) (w : World) : Calls Tryz.prog 91 #[.int .i64 a, .int .i64 b] w fun e w' => e = .returned (.int .i64 (refInts a b)) ∧ w' = w := by
  by_cases h1 : a < b
  · have HE : Hid (refInts a b = -1) := by simp [Hid, refInts, h1]
    go_enter Tryz.func91, Tryz.ntmps91
    go_wp2
    go_ret
    exact ⟨congrArg (fun x : Int => Ending.returned (.int .i64 x)) HE.out.symm, rfl⟩
  · by_cases h2 : b < a
    · have HE : Hid (refInts a b = 1) := by simp [Hid, refInts, h1, h2]
      go_enter Tryz.func91, Tryz.ntmps91
      go_wp2
      go_ret
      exact ⟨congrArg (fun x : Int => Ending.returned (.int .i64 x)) HE.out.symm, rfl⟩
    · have HE : Hid (refInts a b = 0) := by simp [Hid, refInts, h1, h2]
      go_enter Tryz.func91, Tryz.ntmps91
      go_wp2
      go_ret
      exact ⟨congrArg (fun x : Int => Ending.returned (.int .i64 x)) HE.out.symm, rfl⟩
set_option maxHeartbeats 400000 in
theorem cmp_uint64 (a b : Int) (w : World) : Calls Tryz.prog 92 #[.int .u64 a, .int .u64 b] w fun e w' => e = .returned (.int .i64 (refInts a b)) ∧ w' = w := by
  by_cases h1 : a < b
  · have HE : Hid (refInts a b = -1) := by simp [Hid, refInts, h1]
    go_enter Tryz.func92, Tryz.ntmps92
    go_wp2
    go_ret
    exact ⟨congrArg (fun x : Int => Ending.returned (.int .i64 x)) HE.out.symm, rfl⟩
  · by_cases h2 : b < a
    · have HE : Hid (refInts a b = 1) := by simp [Hid, refInts, h1, h2]
      go_enter Tryz.func92, Tryz.ntmps92
      go_wp2
      go_ret
      exact ⟨congrArg (fun x : Int => Ending.returned (.int .i64 x)) HE.out.symm, rfl⟩
    · have HE : Hid (refInts a b = 0) := by simp [Hid, refInts, h1, h2]
      go_enter Tryz.func92, Tryz.ntmps92
      go_wp2
      go_ret
      exact ⟨congrArg (fun x : Int => Ending.returned (.int .i64 x)) HE.out.symm, rfl⟩
set_option maxHeartbeats 400000 in
theorem cmp_string (s s2 : ByteArray) (w : World) : Calls Tryz.prog 94 #[.string s, .string s2] w fun e w' => e = .returned (.int .i64 (refText s s2)) ∧ w' = w := by
  cases h4 : Op.bytesLess s.toList s2.toList
  · cases h5 : (s.toList == s2.toList)
    · have HF : Hid (refText s s2 = 1) := by rw [Hid, refText, h4, h5]; rfl
      go_enter Tryz.func94, Tryz.ntmps94
      go_wp2
      go_ret
      exact ⟨congrArg (fun x : Int => Ending.returned (.int .i64 x)) HF.out.symm, rfl⟩
    · have HF : Hid (refText s s2 = 0) := by rw [Hid, refText, h4, h5]; rfl
      go_enter Tryz.func94, Tryz.ntmps94
      go_wp2
      go_ret
      exact ⟨congrArg (fun x : Int => Ending.returned (.int .i64 x)) HF.out.symm, rfl⟩
  · have HF : Hid (refText s s2 = -1) := by rw [Hid, refText, h4]; rfl
    go_enter Tryz.func94, Tryz.ntmps94
    go_wp2
    go_ret
    exact ⟨congrArg (fun x : Int => Ending.returned (.int .i64 x)) HF.out.symm, rfl⟩

/-- The first that isn't zero. -/
def firstNZ : List Int → Int
  | [] => 0
  | x :: r => if x ≠ 0 then x else firstNZ r
set_option maxHeartbeats 400000 in
theorem cmp_or (xs : List Int) (n : Nat) (hn : n = xs.length) (b : Nat) (w : World) (h : ∀ j (hj : j < xs.length), w.cell? ⟨b, j, none⟩ = some (.int .i64 xs[j])) (hl : xs.length < 4611686018427387904) :
    Calls Tryz.prog 89 #[.slice (some ⟨b, 0, none⟩) n n] w fun e w' => e = .returned (.int .i64 (firstNZ xs)) ∧ w' = w := by
  subst hn
  have HC : Hid (∀ j (hj : j < xs.length), w.cell? ⟨b, j, none⟩ = some (.int .i64 xs[j])) := h
  clear h
  have HR : Hid (firstNZ xs = firstNZ (xs.drop 0)) := rfl
  generalize firstNZ xs = R at *
  go_enter Tryz.func89, Tryz.ntmps89
  go_wp2_with fail
  go_loopw [8] (fun i wr => ∃ k : Nat, i = .int .i64 k ∧ k ≤ xs.length ∧ R = firstNZ (xs.drop k) ∧ wr = w) (fun i _ => (xs.length - intOf i).toNat)
  case atStart => exact ⟨0, rfl, Nat.zero_le _, HR.out, rfl⟩
  case round =>
    obtain ⟨k, rfl, hk, hR, rfl⟩ := hrel
    have HR2 : Hid (R = firstNZ (xs.drop k)) := hR
    clear hR
    by_cases hk2 : k < xs.length
    · have hc := HC.out k hk2
      have HX : Hid (R = if xs[k] ≠ 0 then xs[k] else firstNZ (xs.drop (k + 1))) := by rw [Hid, HR2.out, List.drop_eq_getElem_cons hk2]; rfl
      generalize xs[k] = x at *
      by_cases hx : x = 0
      · have t : (x != 0) = false := by rw [hx]; rfl
        have HN : Hid (R = firstNZ (xs.drop (k + 1))) := by rw [Hid, HX.out, if_neg (by simpa using hx)]
        clear hx
        go_wp2_with fail
        go_roundw
        case rel => exact ⟨k + 1, by go_num, by omega, HN.out, trivial⟩
        case measure => simp [intOf]; omega
      · have t : (x != 0) = true := by rw [bne_iff_ne]; exact hx
        have HN : Hid (R = x) := by rw [Hid, HX.out, if_pos hx]
        clear hx
        go_wp2_with fail
        go_ret
        exact ⟨congrArg (fun x : Int => Ending.returned (.int .i64 x)) HN.out.symm, rfl⟩
    · have HN : Hid (R = 0) := by rw [Hid, HR2.out, List.drop_eq_nil_of_le (by omega)]; rfl
      go_wp2_with fail
      go_ret
      exact ⟨congrArg (fun x : Int => Ending.returned (.int .i64 x)) HN.out.symm, rfl⟩
end Go.Proofs.YtnilikomoapcaaaGreat

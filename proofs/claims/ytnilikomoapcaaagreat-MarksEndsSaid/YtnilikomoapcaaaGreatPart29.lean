/- Package marks: boundsOf of one span. -/
import Derived.Test.YtnilikomoapcaaaGreatPart28
import Derived.Test.YtnilikomoapcaaaGreatMkG
import Derived.Deep.MidRow
import Derived.Test.YtnilikomoapcaaaGreatPart1
import Derived.Test.YtnilikomoapcaaaGreatPart8
import Derived.Deep.LoopGhost
namespace Go.Proofs.YtnilikomoapcaaaGreat
open Go.RowKit
set_option linter.unusedVariables false
set_option linter.unusedSimpArgs false
set_option maxRecDepth 100000

theorem build_ints (a b : Int) (W : World) : (Instr.buildSlice 127 2 #[(0, .int .i64 a), (1, .int .i64 b)]).run Tryz.prog W = .ok (.slice (some ⟨W.heap.size, 0, none⟩) 2 2) (W.alloc (.cells #[.int .i64 a, .int .i64 b] 3)) := by kernel_rfl
theorem LiesJ.new2 (W : World) (a b : Int) : LiesJ (W.alloc (.cells #[.int .i64 a, .int .i64 b] 3)) (some ⟨W.heap.size, 0, none⟩) [a, b] := by
  refine .inr ⟨_, _, rfl, ⟨_, heap_alloc_new W _⟩, fun j u hu => ?_⟩
  rw [Nat.zero_add, cell_of_block (heap_alloc_new W _)]
  have e : cellsJ [a, b] = [.int .i64 a, .int .i64 b] := rfl
  rw [e] at hu
  simpa using hu
theorem NewJ.app2 {W wx : World} {v : Value} {l : List Int} (h : NewJ W wx v l) (a b : Int) (hlen : l.length ≤ 1000000) :
    ∃ v' w', (Builtin.append_ #[127, 127] 127 #[v, .slice (some ⟨wx.heap.size, 0, none⟩) 2 2]).run Tryz.prog (wx.alloc (.cells #[.int .i64 a, .int .i64 b] 3)) = .ok v' w' ∧ NewJ W w' v' (l ++ [a, b]) := by
  obtain ⟨v', w', h1, h2, -⟩ := NewJ.app (h.on ((Touch.refl _ wx).alloc _)) (some ⟨wx.heap.size, 0, none⟩) 2 2 [a, b] rfl (fun h => by cases h) (LiesJ.new2 wx a b) (by simp; omega)
  exact ⟨v', w', h1, h2⟩
theorem spnO_ends {W : World} {m : Nat} {x : Spn} (h : W.heap[m]? = some (spnO x)) : W.cell? ⟨m, 0, none⟩ = some (.int .i64 x.f) ∧ W.cell? ⟨m, 1, none⟩ = some (.int .i64 x.t) :=
  ⟨by rw [cell_of_block h]; rfl, by rw [cell_of_block h]; rfl⟩
set_option maxHeartbeats 4000000 in
theorem boundsOne_any {w : World} {g q cap : Nat} {x : Spn} (hx : w.rangeAt g q x.vals.toList) (hft : x.f < x.t) :
    Calls Tryz.prog 65 #[.slice (some ⟨g, q, none⟩) 1 cap] w fun e w' => ∃ v, e = .returned v ∧ NewJ w w' v [x.f, x.t] := by
  have HX : Hid (w.rangeAt g q x.vals.toList) := hx
  have HF : Hid (x.f < x.t) := hft
  clear hx hft
  go_enter Tryz.func65, Tryz.ntmps65
  go_wp2_with fail
  go_loopw [3, 8] (fun v i wr => (i = .int .i64 0 ∧ v = .slice none 0 0 ∧ wr = w) ∨ (i = .int .i64 1 ∧ NewJ w wr v [x.f, x.t])) (fun v i _ => 2 - (intOf i).toNat)
  case atStart => exact .inl ⟨rfl, rfl, rfl⟩
  case round =>
    rcases hrel with ⟨rfl, rfl, hw⟩ | ⟨rfl, hN⟩
    · rw [hw]
      clear hw
      obtain ⟨W1, hW1⟩ : ∃ W1, Hid (W1 = (w.alloc zeroSpn).setCells w.heap.size 0 x.vals.toList) := ⟨_, Eq.refl _⟩
      have HW1 : Hid (Touch (fun _ => False) w W1 ∧ W1.heap[w.heap.size]? = some (spnO x)) := by rw [hW1.out]; exact newSpn w x
      go_upto_region 4 with fail
      refine wp_region_lit ?_
      refine wpList_plain rfl fun K hK => ?_
      go_simp
      refine hK _ _ ?_
      clear hK K
      refine wpList_load_mid rfl 88 (.tmp 10) rfl g q rfl x.vals.toList _ HX.out Tryz.underlying88 rfl (by kernel_rfl) ?_
      simp only [Act.put, List.setIfInBounds_toArray, List.set_cons_succ, List.set_cons_zero]
      refine wpList_plain rfl fun K hK => ?_
      go_simp
      refine hK _ _ ?_
      clear hK K
      refine wpList_store_mid rfl 88 (.tmp 5) (.tmp 11) rfl w.heap.size 0 x.vals rfl rfl (there_ofS (heap_alloc_new w zeroSpn) 0 24 (by decide)) (by kernel_rfl) (by kernel_rfl) ?_
      simp only [Act.put]
      rw [← hW1.out]
      clear hW1
      generalize Value.agg #[.int .i64 x.f, .int .i64 x.t, .int .u64 x.o.c, .int .u64 x.o.k, .int .i64 x.o.kind, .int .u64 x.o.st, .int .u64 x.o.lc, .int .u64 x.o.lk, .int .u64 x.o.rc, .int .u64 x.o.rk, .string x.o.tx, .int .i64 x.o.vk, .int .i64 x.o.vn, .float .f64 x.o.vf, .string x.o.vs, .string x.o.ky, .int .u64 x.o.pc, .int .u64 x.o.pk, .int .u64 x.o.fc, .int .u64 x.o.fk, .bool x.o.fa, .int .u64 x.o.tc, .int .u64 x.o.tk, .bool x.o.ta] = v11
      obtain ⟨c0, c1⟩ := spnO_ends HW1.out.2
      obtain ⟨v', w', hrun, hnew⟩ := (NewJ.nil w W1 HW1.out.1).app2 x.f x.t (by simp)
      rw [List.nil_append] at hnew
      have HN : Hid (NewJ w w' v' [x.f, x.t]) := hnew
      obtain ⟨ao, ac, rfl, -, -, -⟩ := hnew.shape
      clear hnew
      have hbs := build_ints x.f x.t
      generalize w.heap.size = X at *
      go_wp2_with (at_builtin; refine wpList_append_runJ rfl _ _ rfl _ _ _ rfl rfl hrun ?_)
      exact ⟨.inr ⟨rfl, HN.out⟩, by decide⟩
    · have HI : Hid (NewJ w wr u3 [x.f, x.t]) := hN
      obtain ⟨ao, ac, rfl, hg, -, -⟩ := hN.shape
      obtain ⟨gb, rfl⟩ := hg (by simp)
      obtain ⟨b', o', cap', e', -, -, -, hc⟩ := hN.sl.row (by simp)
      simp only [Value.slice.injEq, Option.some.injEq, Addr.mk.injEq] at e'
      obtain ⟨⟨rfl, rfl, -⟩, -⟩ := e'
      have d0 : wr.cell? ⟨gb, 0, none⟩ = some (.int .i64 x.f) := by simpa using hc 0 (by simp)
      have d1 : wr.cell? ⟨gb, 1, none⟩ = some (.int .i64 x.t) := by simpa using hc 1 (by simp)
      clear hN hc
      have HS : Hid (Calls Tryz.prog 83 #[.slice (some ⟨gb, 0, none⟩) 2 ac] wr fun e w' => e = .returned (.tuple #[]) ∧ Touch (fun _ => False) wr w') := sortTwo_any d0 d1 HF.out
      have HK : Hid (∀ W, Touch (fun _ => False) wr W → Calls Tryz.prog 84 #[.slice (some ⟨gb, 0, none⟩) 2 ac] W fun e w' => e = .returned (.slice (some ⟨gb, 0, none⟩) 2 ac) ∧ Touch (fun _ => False) W w') := fun W T => compactTwo_any (by rw [World.cell?_of_block (T.block _ (World.block_lt_of_cell? _ _ d0) id)]; exact d0) (by rw [World.cell?_of_block (T.block _ (World.block_lt_of_cell? _ _ d1) id)]; exact d1) HF.out
      clear d0 d1
      simp only [List.length_cons, List.length_nil, Nat.zero_add, Nat.reduceAdd] at HI ⊢
      go_wp2_with fail
      refine HS.out.mono ?_
      rintro e W1 ⟨rfl, t1⟩
      have HT : Hid (Touch (fun _ => False) wr W1) := t1
      clear t1 HS
      go_wp2_with fail
      refine (HK.out _ HT.out).mono ?_
      rintro e W2 ⟨rfl, t2⟩
      have HN2 : Hid (NewJ w W2 (.slice (some ⟨gb, 0, none⟩) 2 ac) [x.f, x.t]) := HI.out.on (HT.out.trans t2)
      clear t2 HK HT HI
      go_wp2_with fail
      go_ret
      exact ⟨_, rfl, HN2.out⟩
end Go.Proofs.YtnilikomoapcaaaGreat

/- slices.BinarySearch among two numbers that rise. -/
namespace Go.Proofs.YtnilikomoapcaaaGreat
open Go.RowKit
set_option linter.unusedVariables false
set_option linter.unusedSimpArgs false
set_option maxRecDepth 100000

set_option maxHeartbeats 4000000 in
theorem searchLow_any {w : World} {g cap : Nat} {f t : Int} (h0 : w.cell? ⟨g, 0, none⟩ = some (.int .i64 f)) (h1 : w.cell? ⟨g, 1, none⟩ = some (.int .i64 t)) (hft : f < t) :
    Calls Tryz.prog 66 #[.slice (some ⟨g, 0, none⟩) 2 cap, .int .i64 f] w fun e w' => e = .returned (.tuple #[.int .i64 0, .bool true]) ∧ w' = w := by
  have HL1 : Hid (Calls Tryz.prog 85 #[.int .i64 t, .int .i64 f] w fun e w' => e = .returned (.bool false) ∧ w' = w) := by
    have := cmpLess_any t f w
    rwa [decide_eq_false (by omega)] at this
  have HL2 : Hid (Calls Tryz.prog 85 #[.int .i64 f, .int .i64 f] w fun e w' => e = .returned (.bool false) ∧ w' = w) := by
    have := cmpLess_any f f w
    rwa [decide_eq_false (by omega)] at this
  have hff : (f == f) = true := by simp
  clear hft
  go_enter Tryz.func66, Tryz.ntmps66
  go_wp2_with fail
  go_loopw [7, 8] (fun a b wr => wr = w ∧ a = .int .i64 0 ∧ ∃ k : Nat, b = .int .i64 (k : Int) ∧ (k = 0 ∨ k = 1 ∨ k = 2)) (fun _ b _ => (intOf b).toNat)
  case atStart => exact ⟨rfl, rfl, 2, rfl, by omega⟩
  case round =>
    obtain ⟨hw, rfl, k, rfl, hk⟩ := hrel
    rw [hw]
    clear hw
    rcases hk with rfl | rfl | rfl
    · go_wp2_with fail
      refine bodyPost_ret (v := .tuple #[.int .i64 0, .bool true]) (by simp [results, Tryz.results66, go_sem]) rfl ?_
      exact ⟨rfl, rfl⟩
    · go_wp2_with fail
      refine HL2.out.mono ?_
      rintro e w1 ⟨rfl, hw1⟩
      rw [hw1]; clear hw1
      go_wp2_with fail
      exact ⟨⟨trivial, rfl, 0, rfl, by omega⟩, by decide⟩
    · go_wp2_with fail
      refine HL1.out.mono ?_
      rintro e w1 ⟨rfl, hw1⟩
      rw [hw1]; clear hw1
      go_wp2_with fail
      exact ⟨⟨trivial, rfl, 1, rfl, by omega⟩, by decide⟩
set_option maxHeartbeats 4000000 in
theorem searchHigh_any {w : World} {g cap : Nat} {f t : Int} (h0 : w.cell? ⟨g, 0, none⟩ = some (.int .i64 f)) (h1 : w.cell? ⟨g, 1, none⟩ = some (.int .i64 t)) (hft : f < t) :
    Calls Tryz.prog 66 #[.slice (some ⟨g, 0, none⟩) 2 cap, .int .i64 t] w fun e w' => e = .returned (.tuple #[.int .i64 1, .bool true]) ∧ w' = w := by
  have HL1 : Hid (Calls Tryz.prog 85 #[.int .i64 t, .int .i64 t] w fun e w' => e = .returned (.bool false) ∧ w' = w) := by
    have := cmpLess_any t t w
    rwa [decide_eq_false (by omega)] at this
  have HL2 : Hid (Calls Tryz.prog 85 #[.int .i64 f, .int .i64 t] w fun e w' => e = .returned (.bool true) ∧ w' = w) := by
    have := cmpLess_any f t w
    rwa [decide_eq_true (by omega)] at this
  have hff : (t == t) = true := by simp
  clear hft
  go_enter Tryz.func66, Tryz.ntmps66
  go_wp2_with fail
  go_loopw [7, 8] (fun a b wr => wr = w ∧ ((a = .int .i64 0 ∧ b = .int .i64 2) ∨ (a = .int .i64 0 ∧ b = .int .i64 1) ∨ (a = .int .i64 1 ∧ b = .int .i64 1))) (fun a b _ => (intOf b).toNat - (intOf a).toNat)
  case atStart => exact ⟨rfl, .inl ⟨rfl, rfl⟩⟩
  case round =>
    obtain ⟨hw, hk⟩ := hrel
    rw [hw]
    clear hw
    rcases hk with ⟨rfl, rfl⟩ | ⟨rfl, rfl⟩ | ⟨rfl, rfl⟩
    · go_wp2_with fail
      refine HL1.out.mono ?_
      rintro e w1 ⟨rfl, hw1⟩
      rw [hw1]; clear hw1
      go_wp2_with fail
      exact ⟨⟨trivial, .inr (.inl ⟨rfl, rfl⟩)⟩, by decide⟩
    · go_wp2_with fail
      refine HL2.out.mono ?_
      rintro e w1 ⟨rfl, hw1⟩
      rw [hw1]; clear hw1
      go_wp2_with fail
      exact ⟨⟨trivial, .inr (.inr ⟨rfl, rfl⟩)⟩, by decide⟩
    · go_wp2_with fail
      refine bodyPost_ret (v := .tuple #[.int .i64 1, .bool true]) (by simp [results, Tryz.results66, go_sem]) rfl ?_
      exact ⟨rfl, rfl⟩
end Go.Proofs.YtnilikomoapcaaaGreat

/- Package marks: which mark wins a stretch, as lists (no Go in it): the greatest first, each takes what is left of its stretches. -/
namespace Go.Proofs.YtnilikomoapcaaaGreat
set_option linter.unusedVariables false
set_option linter.unusedSimpArgs false

/-- The stretches that a mark takes: those from a on below b that are left. -/
def takesW (T : Nat → Bool) (a b : Nat) : List Nat := ((List.range b).drop a).filter fun i => !T i
theorem takesW_mem {T : Nat → Bool} {a b i : Nat} : i ∈ takesW T a b ↔ a ≤ i ∧ i < b ∧ T i = false := by
  unfold takesW
  rw [List.mem_filter]
  have : i ∈ (List.range b).drop a ↔ a ≤ i ∧ i < b := by
    rw [List.mem_iff_getElem?]
    constructor
    · rintro ⟨k, hk⟩
      rw [List.getElem?_drop] at hk
      obtain ⟨h1, h2⟩ := List.getElem?_eq_some_iff.1 hk
      simp at h1 h2
      omega
    · rintro ⟨h1, h2⟩
      refine ⟨i - a, ?_⟩
      rw [List.getElem?_drop, show a + (i - a) = i from by omega, List.getElem?_eq_getElem (by simpa using h2)]
      simp
  rw [this]
  simp [and_assoc]
/-- All that is won: of each mark (from which stretch, below which one, itself) in turn. -/
def wonW {α : Type} : List (Nat × Nat × α) → (Nat → Bool) → List (Nat × α)
  | [], _ => []
  | m :: ms, T => (takesW T m.1 m.2.1).map (fun i => (i, m.2.2)) ++ wonW ms fun i => T i || (decide (m.1 ≤ i) && decide (i < m.2.1))
/-- Whose a stretch is: the first one's that is over it. -/
def firstW {α : Type} (ms : List (Nat × Nat × α)) (i : Nat) : Option α := (ms.find? fun m => decide (m.1 ≤ i) && decide (i < m.2.1)).map (·.2.2)
theorem takesW_nodup (T : Nat → Bool) (a b : Nat) : (takesW T a b).Nodup := ((List.nodup_range (n := b)).sublist (List.drop_sublist a _)).sublist List.filter_sublist
/-- A stretch is won once, by the first one that is over it. -/
theorem wonW_at {α : Type} (i : Nat) : ∀ (ms : List (Nat × Nat × α)) (T : Nat → Bool), (wonW ms T).filter (fun p => p.1 == i) = if T i = true then [] else ((firstW ms i).map fun x => (i, x)).toList
  | [], T => by simp [wonW, firstW]
  | m :: ms, T => by
    have ih := wonW_at i ms fun j => T j || (decide (m.1 ≤ j) && decide (j < m.2.1))
    unfold wonW
    rw [List.filter_append, ih]
    have hn := takesW_nodup T m.1 m.2.1
    have hone : ((takesW T m.1 m.2.1).map fun j => (j, m.2.2)).filter (fun p => p.1 == i) = if i ∈ takesW T m.1 m.2.1 then [(i, m.2.2)] else [] := by
      generalize takesW T m.1 m.2.1 = l at hn
      induction l with
      | nil => rfl
      | cons x l ih2 =>
        obtain ⟨h1, h2⟩ := List.nodup_cons.1 hn
        rw [List.map_cons, List.filter_cons, ih2 h2]
        by_cases e : x = i
        · subst e
          simp [h1]
        · have e' : ¬ i = x := fun q => e q.symm
          simp [e, e']
    rw [hone]
    have hmem : i ∈ takesW T m.1 m.2.1 ↔ m.1 ≤ i ∧ i < m.2.1 ∧ T i = false := takesW_mem
    unfold firstW
    rw [List.find?_cons]
    by_cases hT : T i = true
    · have : ¬ i ∈ takesW T m.1 m.2.1 := fun q => by rw [hmem] at q; rw [q.2.2] at hT; cases hT
      simp [hT, this]
    · have hT' : T i = false := by simpa using hT
      by_cases hc : m.1 ≤ i ∧ i < m.2.1
      · have : i ∈ takesW T m.1 m.2.1 := hmem.2 ⟨hc.1, hc.2, hT'⟩
        simp [hT', hc.1, hc.2, this]
      · have : ¬ i ∈ takesW T m.1 m.2.1 := fun q => hc ⟨(hmem.1 q).1, (hmem.1 q).2.1⟩
        have hd : (decide (m.1 ≤ i) && decide (i < m.2.1)) = false := by
          rw [Bool.and_eq_false_iff]
          by_cases h1 : m.1 ≤ i
          · right; simp; omega
          · left; simp; omega
        simp [hT', this, hd]
/-- The ways to what is left: none ahead of where a way leads is left. -/
structure LeftW (T : Nat → Bool) (n : Nat) (f : Nat → Nat) : Prop where
  up : ∀ i, i < n → i ≤ f i ∧ f i < n
  root : ∀ i, i < n → (f i = i ↔ T i = false)
  skip : ∀ i j, i < n → i ≤ j → j < f i → T j = true
  last : 0 < n ∧ T (n - 1) = false
/-- The first stretch from i on that is left. -/
def LeftW.first (T : Nat → Bool) (n i : Nat) : Nat := i + ((List.range (n - i)).findIdx fun k => !T (i + k))
theorem LeftW.first_spec {T : Nat → Bool} {n : Nat} {f : Nat → Nat} (h : LeftW T n f) {i : Nat} (hi : i < n) : i ≤ LeftW.first T n i ∧ LeftW.first T n i < n ∧ T (LeftW.first T n i) = false ∧ ∀ j, i ≤ j → j < LeftW.first T n i → T j = true := by
  unfold LeftW.first
  have hex : ∃ x ∈ List.range (n - i), (!T (i + x)) = true := ⟨n - 1 - i, by simp; omega, by rw [show i + (n - 1 - i) = n - 1 from by omega, h.last.2]; rfl⟩
  have hlt := List.findIdx_lt_length.2 hex
  have hp := List.findIdx_getElem (w := hlt)
  simp at hlt hp
  refine ⟨by omega, by omega, hp, fun j h1 h2 => ?_⟩
  have := List.not_of_lt_findIdx (p := fun k => !T (i + k)) (xs := List.range (n - i)) (i := j - i) (by omega)
  simp at this
  rw [show i + (j - i) = j from by omega] at this
  exact this
theorem LeftW.first_eq {T : Nat → Bool} {n : Nat} {f : Nat → Nat} (h : LeftW T n f) {i j : Nat} (hi : i < n) (h1 : i ≤ j) (h2 : T j = false) (h3 : ∀ k, i ≤ k → k < j → T k = true) : LeftW.first T n i = j := by
  obtain ⟨a, b, c, d⟩ := h.first_spec hi
  refine Nat.le_antisymm ?_ ?_
  · refine Nat.le_of_not_lt fun q => ?_
    have := d j h1 q
    rw [h2] at this; cases this
  · refine Nat.le_of_not_lt fun q => ?_
    have := h3 _ a q
    rw [c] at this; cases this
theorem LeftW.first_step {T : Nat → Bool} {n : Nat} {f : Nat → Nat} (h : LeftW T n f) {i : Nat} (hi : i < n) : LeftW.first T n i = LeftW.first T n (f i) := by
  obtain ⟨u1, u2⟩ := h.up i hi
  obtain ⟨a, b, c, d⟩ := h.first_spec u2
  exact h.first_eq hi (by omega) c fun k h1 h2 => by
    by_cases hk : k < f i
    · exact h.skip i k hi h1 hk
    · exact d k (by omega) h2
/-- A way made shorter. -/
theorem LeftW.short {T : Nat → Bool} {n : Nat} {f : Nat → Nat} (h : LeftW T n f) {i : Nat} (hi : i < n) (hne : f i ≠ i) : LeftW T n fun k => if k = i then f (f i) else f k := by
  obtain ⟨u1, u2⟩ := h.up i hi
  obtain ⟨v1, v2⟩ := h.up (f i) u2
  refine ⟨fun k hk => ?_, fun k hk => ?_, fun k j hk h1 h2 => ?_, h.last⟩
  · split
    · subst_vars; omega
    · exact h.up k hk
  · split
    · next e =>
      subst e
      have ht : T k = true := by
        cases e2 : T k with
        | true => rfl
        | false => exact absurd ((h.root k hk).2 e2) hne
      rw [ht]
      constructor
      · intro e3; omega
      · intro e3; cases e3
    · exact h.root k hk
  · split at h2
    · next e =>
      subst e
      by_cases hj : j < f k
      · exact h.skip k j hk h1 hj
      · exact h.skip (f k) j u2 (by omega) h2
    · exact h.skip k j hk h1 h2
/-- A stretch that is taken. -/
theorem LeftW.take {T : Nat → Bool} {n : Nat} {f : Nat → Nat} (h : LeftW T n f) {i : Nat} (hi : i + 1 < n) (hT : T i = false) : LeftW (fun k => T k || k == i) n fun k => if k = i then i + 1 else f k := by
  refine ⟨fun k hk => ?_, fun k hk => ?_, fun k j hk h1 h2 => ?_, h.last.1, ?_⟩
  · split
    · omega
    · exact h.up k hk
  · split
    · next e => subst e; simp
    · next e =>
      have hb : (k == i) = false := by simpa using e
      rw [hb, Bool.or_false]
      exact h.root k hk
  · split at h2
    · next e =>
      subst e
      have : j = k := by omega
      simp [this]
    · rw [h.skip k j hk h1 h2]; rfl
  · have hb : (n - 1 == i) = false := by simp; omega
    rw [h.last.2, hb]; rfl
end Go.Proofs.YtnilikomoapcaaaGreat

/- Package marks: firstLeft. -/
namespace Go.Proofs.YtnilikomoapcaaaGreat
open Go.RowKit
set_option linter.unusedVariables false
set_option linter.unusedSimpArgs false
set_option maxRecDepth 100000

/-- The ways lie in block g. -/
def WaysAt (W : World) (g n : Nat) (f : Nat → Nat) : Prop := ∃ c t, W.heap[g]? = some (.cells c t (0, 0)) ∧ c.size = n ∧ ∀ i, i < n → c[i]? = some (.int .i64 (f i : Int))
theorem WaysAt.cell {W : World} {g n : Nat} {f : Nat → Nat} (h : WaysAt W g n f) {i : Nat} (hi : i < n) : W.cell? ⟨g, i, none⟩ = some (.int .i64 (f i : Int)) ∧ W.frozen? ⟨g, i, none⟩ = false := by
  obtain ⟨c, t, h1, h2, h3⟩ := h
  exact ⟨by rw [cell_of_block h1]; exact h3 i hi, free_of_block h1⟩
theorem WaysAt.put {W : World} {g n : Nat} {f : Nat → Nat} (h : WaysAt W g n f) {i : Nat} (hi : i < n) (v : Nat) : WaysAt (W.setCell ⟨g, i, none⟩ (.int .i64 (v : Int))) g n (fun k => if k = i then v else f k) := by
  obtain ⟨c, t, h1, h2, h3⟩ := h
  refine ⟨_, t, heap_setCell_same _ _ _ _ h1, by simpa using h2, fun k hk => ?_⟩
  rw [Array.getElem?_setIfInBounds]
  by_cases e : i = k
  · subst e; simp [h2, hi]
  · have e2 : ¬ k = i := fun q => e q.symm
    rw [if_neg e, h3 k hk]
    simp only [e2, if_false]
set_option maxHeartbeats 4000000 in
theorem firstLeft_any {w : World} {g n cap : Nat} {f : Nat → Nat} {T : Nat → Bool} (h : WaysAt w g n f) (hL : LeftW T n f) {i0 : Nat} (hi : i0 < n) (hn : n ≤ 4611686018427387904) :
    Calls Tryz.prog 67 #[.slice (some ⟨g, 0, none⟩) n cap, .int .i64 (i0 : Int)] w fun e w' => e = .returned (.int .i64 (LeftW.first T n i0 : Int)) ∧ Touch (fun k => k = g) w w' ∧ ∃ f', WaysAt w' g n f' ∧ LeftW T n f' := by
  have HW : Hid (WaysAt w g n f) := h
  have HL : Hid (LeftW T n f) := hL
  have HI : Hid (i0 < n) := hi
  clear h hL hi
  obtain ⟨R, hR⟩ : ∃ R, Hid (R = LeftW.first T n i0) := ⟨_, Eq.refl _⟩
  rw [← hR.out]
  go_enter Tryz.func67, Tryz.ntmps67
  go_wp2_with fail
  go_loopg [1] (n - i0) (fun gh i wr => ∃ (k : Nat) (f : Nat → Nat), gh = n - k ∧ i = .int .i64 (k : Int) ∧ Hid (k < n ∧ WaysAt wr g n f ∧ LeftW T n f ∧ R = LeftW.first T n k ∧ Touch (fun k => k = g) w wr))
  case atStart => exact ⟨i0, f, rfl, rfl, HI.out, HW.out, HL.out, hR.out, Touch.refl _ _⟩
  case round =>
    clear HW HL HI hR f
    obtain ⟨k, f, rfl, rfl, HA⟩ := hrel
    obtain ⟨hk, hW, hL, hF, hT⟩ := HA.out
    obtain ⟨u1, u2⟩ := hL.up k hk
    obtain ⟨v1, v2⟩ := hL.up (f k) u2
    obtain ⟨c0, -⟩ := hW.cell hk
    obtain ⟨c1, -⟩ := hW.cell u2
    have z0 := (hW.cell hk).2
    have p0 := ((hW.put hk (f (f k))).cell hk).1
    simp only [if_true] at p0
    have hi1 : (0 : Int) ≤ (k : Int) := by omega
    have hi2 : (k : Int) < (n : Int) := by omega
    have hi3 : (0 : Int) ≤ (f k : Int) := by omega
    have hi4 : (f k : Int) < (n : Int) := by omega
    cases hb : ((f k : Int) == (k : Int)) with
    | true =>
      have hb2 : f k = k := by have := eq_of_beq hb; omega
      have HE : Hid (R = k) := by
        rw [Hid, hF]
        exact hL.first_eq hk (Nat.le_refl _) ((hL.root k hk).1 hb2) fun j h1 h2 => by omega
      have hb3 : ((f k : Int) != (k : Int)) = false := by rw [bne, hb]; rfl
      clear hk hW hL hF hT hb hb2 u1 u2 v1 v2
      go_wp2_with fail
      go_ret
      exact ⟨by rw [HE.out]; rfl, HA.out.2.2.2.2, f, HA.out.2.1, HA.out.2.2.1⟩
    | false =>
      have hb2 : f k ≠ k := fun q => by rw [q] at hb; simp at hb
      have HB : Hid (k < f (f k) ∧ f (f k) < n) := ⟨by omega, v2⟩
      have HQ : Hid (WaysAt (wr.setCell ⟨g, k, none⟩ (.int .i64 (f (f k) : Int))) g n (fun x => if x = k then f (f k) else f x) ∧ LeftW T n (fun x => if x = k then f (f k) else f x) ∧ R = LeftW.first T n (f (f k)) ∧ Touch (fun k => k = g) w (wr.setCell ⟨g, k, none⟩ (.int .i64 (f (f k) : Int)))) :=
        ⟨hW.put hk _, hL.short hk hb2, by rw [hF, hL.first_step hk, hL.first_step u2], hT.setCell _ _ fun _ => rfl⟩
      have hb3 : ((f k : Int) != (k : Int)) = true := by rw [bne, hb]; rfl
      clear hk hW hL hF hT hb hb2 u1 u2 v1 v2 HA
      go_wp2_with fail
      go_roundg (n - f (f k))
      case measure => have := HB.out; omega
      case rel => exact ⟨f (f k), _, rfl, rfl, HB.out.2, HQ.out.1, HQ.out.2.1, HQ.out.2.2.1, HQ.out.2.2.2⟩
end Go.Proofs.YtnilikomoapcaaaGreat

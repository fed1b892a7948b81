/- Package marks: what a place shows, as a function (no Go in it). -/
import Derived.Test.YtnilikomoapcaaaGreatMkG
import Derived.Test.YtnilikomoapcaaaGreatPart19
import Derived.Sort.KeysCollected
import Derived.Test.YtnilikomoapcaaaGreatMkAa
import Derived.Carry
namespace Go.Proofs.YtnilikomoapcaaaGreat
open Go.RowKit Go.Maps Go.Sort
set_option linter.unusedVariables false
set_option linter.unusedSimpArgs false

theorem winsM_rising {place : Int} : ∀ (l : List Spn) (es : List (Key × O)), Rising es → Rising (l.foldl (winsM place) es)
  | [], es, h => h
  | x :: l, es, h => by
    rw [List.foldl_cons]
    refine winsM_rising l _ ?_
    unfold winsM
    split
    · exact h
    · exact winP_rising h
theorem winsM_len {place : Int} : ∀ (l : List Spn) (es : List (Key × O)), (l.foldl (winsM place) es).length ≤ es.length + l.length
  | [], es => Nat.le_refl _
  | x :: l, es => by
    rw [List.foldl_cons]
    refine Nat.le_trans (winsM_len l _) ?_
    have hi : ∀ (k : Key) (o : O) (m : List (Key × O)), (ains k o m).length = m.length + 1 := by
      intro k o m
      induction m with
      | nil => rfl
      | cons y r ih =>
        show (if bytesBefore k y.1 then (k, o) :: y :: r else y :: ains k o r).length = _
        split
        · rfl
        · rw [List.length_cons, ih]; rfl
    have hp : ∀ (k : Key) (o : O) (m : List (Key × O)), (aput k o m).length ≤ m.length + 1 := by
      intro k o m
      unfold aput
      rw [hi]
      have : (adel k m).length ≤ m.length := List.length_filter_le _ _
      omega
    have h1 : (winsM place es x).length ≤ es.length + 1 := by
      unfold winsM
      split
      · omega
      · unfold winP
        split
        · exact hp _ _ _
        · split
          · exact hp _ _ _
          · omega
    simp only [List.length_cons]
    omega
/-- What is shown of the winners. -/
def showM (es : List (Key × O)) : List Mk := es.filterMap fun p => if p.2.vk == 0 then none else some (mk p.2)
def atM (S : SS) (l : List O) (place : Int) : List Mk := showM ((spansM S l).foldl (winsM place) [])
theorem showM_take {es : List (Key × O)} {j : Nat} (h : j < es.length) : showM (es.take (j + 1)) = showM (es.take j) ++ (if (es[j].2.vk == 0) = true then [] else [mk es[j].2]) := by
  unfold showM
  rw [List.take_succ_eq_append_getElem h, List.filterMap_append]
  congr 1
  rw [List.filterMap_cons]
  cases e : (es[j].2.vk == 0) <;> simp [e]
theorem showM_len (es : List (Key × O)) : (showM es).length ≤ es.length := List.length_filterMap_le _ _
theorem getO_at {es : List (Key × O)} (h : Rising es) {j : Nat} (hj : j < es.length) : getO es[j].1 es = es[j].2 := by
  unfold getO
  have e : aget es[j].1 es = some es[j].2 := aget_of_mem h (List.getElem_mem hj)
  rw [e]
  rfl
theorem rising_sortedO (es : List (Key × O)) (h : Rising es) {ss : List Key} (hs : ss.Perm (es.map (·.1))) : ss.mergeSort (fun x y => decide (x ≤ y)) = es.map (·.1) := by
  have e : ss.mergeSort leB = (es.map (·.1)).mergeSort leB := mergeSort_of_perm hs
  refine e.trans (List.mergeSort_of_pairwise ?_)
  refine List.pairwise_map.2 (h.imp fun {p q} hpq => ?_)
  simp only [leB, decide_eq_true_eq]
  exact List.le_of_lt (before_lt _ _ hpq)
end Go.Proofs.YtnilikomoapcaaaGreat

/- Package marks: All, up to its range's end. -/
namespace Go.Proofs.YtnilikomoapcaaaGreat
open Go.RowKit Go.Shelf Go.Maps
set_option linter.unusedVariables false
set_option linter.unusedSimpArgs false
set_option maxRecDepth 100000
attribute [local go_sem] Oper.semAt_some

/-- The spans of one key, as they came. -/
def byK (pre : List Spn) (k : Key) : List Spn := pre.filter fun x => x.o.ky.data.toList == k
theorem byK_same (pre : List Spn) (x : Spn) : byK (pre ++ [x]) x.o.ky.data.toList = byK pre x.o.ky.data.toList ++ [x] := by simp [byK]
theorem byK_other (pre : List Spn) (x : Spn) {k : Key} (h : k ≠ x.o.ky.data.toList) : byK (pre ++ [x]) k = byK pre k := by
  have : ¬ x.o.ky.data.toList = k := fun e => h e.symm
  simp [byK, this]
theorem byK_len (pre : List Spn) (k : Key) : (byK pre k).length ≤ pre.length := List.length_filter_le _ _
theorem ains_len {α : Type} (k : Key) (x : α) : ∀ es : List (Key × α), (ains k x es).length = es.length + 1
  | [] => rfl
  | y :: r => by
    unfold ains
    split
    · simp
    · simp [ains_len k x r]
theorem aput_len {α : Type} (k : Key) (x : α) (es : List (Key × α)) : (aput k x es).length ≤ es.length + 1 := by
  rw [aput, ains_len]
  have : (adel k es).length ≤ es.length := List.length_filter_le _ _
  omega
/-- Between two rounds: the map's slices are those of each key's spans. -/
structure AllI (w : World) (pre : List Spn) (Ω : Nat → Prop) (W : World) (n : Nat) (es : List (Key × Value)) : Prop where
  wb : W.heap[w.heap.size + 1]? = some (.cells #[.map (some w.heap.size)] 83 (0, 0))
  own : W.ownsMap Tryz.prog 9 heldO w.heap.size n (toV es)
  le : n ≤ pre.length
  elen : es.length ≤ pre.length
  rise : Rising es
  rows : ∀ p ∈ es, W.ownsRow 0 88 24 p.2 (byK pre p.1).length (cellsX (byK pre p.1))
  keys : ∀ k, aget k es = none → byK pre k = []
  full : ∀ p ∈ es, byK pre p.1 ≠ []
  apart : ∀ p ∈ es, ∀ q ∈ es, p.1 ≠ q.1 → ∀ b, p.2.ownBlock = some b → q.2.ownBlock ≠ some b
  blk : ∀ p ∈ es, ∀ b, p.2.ownBlock = some b → Ω b ∧ w.heap.size + 1 < b
  t : Touch (fun _ => False) w W
  o : Ω w.heap.size
  lt : ∀ k, Ω k → k < W.heap.size
  no : ¬ Ω (w.heap.size + 1)
def AllE (w : World) (pre : List Spn) (Ω : Nat → Prop) (W : World) : Prop := ∃ n es, AllI w pre Ω W n es
theorem AllI.keep {w : World} {pre : List Spn} {Ω : Nat → Prop} {A B : World} {m n : Nat} {es : List (Key × Value)} (hm : w.heap.size + 1 < m) (h : AllI w pre Ω A n es) (t : Touch (fun k => m ≤ k ∧ ¬ Ω k) A B) : AllI w pre Ω B n es :=
  ⟨(t.block _ (lt_of_heap h.wb) fun q => absurd q.1 (by omega)).trans h.wb, ownsO_touch h.own t fun q => absurd q.1 (by omega), h.le, h.elen, h.rise, fun p hp => ownX_touch (h.rows p hp) t fun b hb q => q.2 (h.blk p hp b hb).1, h.keys, h.full, h.apart, h.blk, h.t.then t fun k hk q => absurd q.1 (by omega), h.o, fun k hk => Nat.lt_of_lt_of_le (h.lt k hk) t.size, h.no⟩
theorem AllE.foot {w : World} {m : Nat} (hm : w.heap.size + 1 < m) : Foot m (AllE w) := ⟨fun s Ω A B ⟨n, es, h⟩ t => ⟨n, es, h.keep hm t⟩, fun s Ω A ⟨n, es, h⟩ => h.lt⟩
/-- What the map holds of a key. -/
theorem AllI.at {w : World} {pre : List Spn} {Ω : Nat → Prop} {W : World} {n : Nat} {es : List (Key × Value)} (h : AllI w pre Ω W n es) (k : Key) :
    W.ownsRow 0 88 24 (getV k es) (byK pre k).length (cellsX (byK pre k)) ∧ (∀ b, (getV k es).ownBlock = some b → Ω b ∧ w.heap.size + 1 < b ∧ ∀ q ∈ es, k ≠ q.1 → q.2.ownBlock ≠ some b) := by
  unfold getV
  cases e : aget k es with
  | none =>
    rw [h.keys k e]
    refine ⟨World.ownsRow_nil _ _ _ _, fun b hb => ?_⟩
    simp [Value.ownBlock] at hb
  | some v =>
    have hm := aget_mem e
    exact ⟨h.rows _ hm, fun b hb => ⟨(h.blk _ hm b hb).1, (h.blk _ hm b hb).2, fun q hq hk => h.apart _ hm q hq hk b hb⟩⟩
theorem AllI.app {w : World} {pre : List Spn} {Ω : Nat → Prop} {W V : World} {n X : Nat} {es : List (Key × Value)} {x : Spn} (h : AllI w pre Ω W n es) (hpl : pre.length ≤ 1000000) (hXl : X < W.heap.size) (hX : ∀ p ∈ es, p.2.ownBlock ≠ some X) (tV : Touch (fun _ => False) W V) :
    ∃ v' w2, (Builtin.append_ #[89, 89] 89 #[getV x.o.ky.data.toList es, .slice (some ⟨V.heap.size, 0, none⟩) 1 1]).run Tryz.prog (V.alloc (spnO x)) = .ok v' w2 ∧ w2.ownsMap Tryz.prog 9 heldO w.heap.size n (toV es) ∧ w2.heap[w.heap.size + 1]? = W.heap[w.heap.size + 1]? ∧ w2.heap[X]? = W.heap[X]? ∧
      ∀ W5, W5.ownsMap Tryz.prog 9 heldO w.heap.size (n + 1) (toV (aput x.o.ky.data.toList v' es)) → w2.mapTurned W5 w.heap.size → Touch Ω W W5 ∧ ∃ Ω', Swells Ω Ω' W.heap.size ∧ AllE w (pre ++ [x]) Ω' W5 := by
  obtain ⟨hv, hvb⟩ := h.at x.o.ky.data.toList
  have hXv : (getV x.o.ky.data.toList es).ownBlock ≠ some X := by
    unfold getV
    cases e : aget x.o.ky.data.toList es with
    | none => simp [Value.ownBlock]
    | some v => exact hX _ (aget_mem e)
  have ta : Touch (fun _ => False) W (V.alloc (spnO x)) := tV.alloc _
  have hbl := byK_len pre x.o.ky.data.toList
  obtain ⟨v', w2, hrun, hown', hg, hb⟩ := run_appendX (V.alloc (spnO x)) (getV x.o.ky.data.toList es) (byK pre x.o.ky.data.toList) (ownX_touch hv ta fun _ _ => id) (some ⟨V.heap.size, 0, none⟩) 1 1 [x] rfl (fun h => by cases h) (LiesX.new V x) (by simp; omega)
  rw [← byK_same] at hown'
  obtain ⟨v, hvE⟩ : ∃ v, v = getV x.o.ky.data.toList es := ⟨_, rfl⟩
  rw [← hvE] at hv hvb hXv hrun hg hb ⊢
  clear hvE
  have t1 : Touch (fun b => v.ownBlock = some b) W w2 := (ta.mono fun _ _ q => q.elim).grown hg fun i e _ => e
  have hsz : W.heap.size ≤ (V.alloc (spnO x)).heap.size := ta.size
  have hwl : w.heap.size + 1 < W.heap.size := lt_of_heap h.wb
  have hv'b : ∀ b, v'.ownBlock = some b → (Ω b ∨ W.heap.size ≤ b) ∧ w.heap.size + 1 < b ∧ (∀ q ∈ es, x.o.ky.data.toList ≠ q.1 → q.2.ownBlock ≠ some b) := fun b hb' => by
    rcases hb with e | e
    · rw [e] at hb'
      exact ⟨.inl (hvb b hb').1, (hvb b hb').2⟩
    · rw [hb'] at e
      simp only [Option.some.injEq] at e
      refine ⟨.inr (by omega), by omega, fun q hq _ hqb => ?_⟩
      have := h.lt b (h.blk q hq b hqb).1
      omega
  refine ⟨v', w2, hrun, ownsO_touch h.own t1 fun e => by have := (hvb _ e).2.1; omega, t1.block _ hwl fun e => by have := (hvb _ e).2.1; omega, t1.block _ hXl hXv, ?_⟩
  intro W5 o5 t5
  have q5 : Touch (fun k => k = w.heap.size) w2 W5 := (Touch.refl (fun k => k = w.heap.size) w2).grown t5.grown fun i e _ => by simpa using e.symm
  have t25 : Touch (fun b => v.ownBlock = some b ∨ b = w.heap.size) W W5 := (t1.mono fun _ _ q => .inl q).trans (q5.mono fun _ _ q => .inr q)
  have hw2l : ∀ b, v'.ownBlock = some b → b < W5.heap.size := fun b hb' => by
    rcases hown'.2 with ⟨e, _⟩ | ⟨g, cap, cur, e, _, hgg, _⟩
    · rw [e] at hb'; simp [Value.ownBlock] at hb'
    · rw [e] at hb'
      have e' : g = b := by simpa [Value.ownBlock] using hb'
      rw [← e']; exact Nat.lt_of_lt_of_le (lt_of_heap hgg) q5.size
  refine ⟨t25.mono fun k _ e => e.elim (fun e => (hvb k e).1) fun e => e ▸ h.o, fun k => Ω k ∨ v'.ownBlock = some k, fun k hk => hk.elim .inl fun e => (hv'b k e).1, n + 1, aput x.o.ky.data.toList v' es, ?_⟩
  refine ⟨(t25.block _ hwl fun e => e.elim (fun e => by have := (hvb _ e).2.1; omega) fun e => by omega).trans h.wb, o5, by have := h.le; simp; omega, ?_, h.rise.aput, ?_, ?_, ?_, ?_, ?_, h.t.then t25 fun k hk e => e.elim (fun e => by have := (hvb _ e).2.1; omega) fun e => by omega, .inl h.o, ?_, ?_⟩
  · have h1 := aput_len x.o.ky.data.toList v' es
    have h2 := h.elen
    simp only [List.length_append, List.length_singleton]
    omega
  · intro p hp
    rcases mem_aput.1 hp with rfl | ⟨hp, hk⟩
    · exact ownX_touch hown' q5 fun b hb' e => by have := (hv'b b hb').2.1; omega
    · rw [byK_other pre x hk]
      exact ownX_touch (h.rows p hp) t25 fun b hb' e => e.elim (fun e => (hvb b e).2.2 p hp (fun e2 => hk e2.symm) hb') fun e => by have := (h.blk p hp b hb').2; omega
  · intro k hk
    by_cases e : x.o.ky.data.toList = k
    · subst e; rw [aget_aput_same] at hk; cases hk
    · rw [aget_aput_other e] at hk
      rw [byK_other pre x (fun e2 => e e2.symm)]
      exact h.keys k hk
  · intro p hp
    rcases mem_aput.1 hp with rfl | ⟨hp, hk⟩
    · rw [byK_same]; simp
    · rw [byK_other pre x hk]; exact h.full p hp
  · intro p hp r hr hpr b hb' hrb
    rcases mem_aput.1 hp with rfl | ⟨hp, hk⟩
    · rcases mem_aput.1 hr with rfl | ⟨hr, hk2⟩
      · exact hpr rfl
      · exact (hv'b b hb').2.2 r hr (fun e => hk2 e.symm) hrb
    · rcases mem_aput.1 hr with rfl | ⟨hr, hk2⟩
      · exact (hv'b b hrb).2.2 p hp (fun e => hk e.symm) hb'
      · exact h.apart p hp r hr hpr b hb' hrb
  · intro p hp b hb'
    rcases mem_aput.1 hp with rfl | ⟨hp, hk⟩
    · exact ⟨.inr hb', (hv'b b hb').2.1⟩
    · exact ⟨.inl (h.blk p hp b hb').1, (h.blk p hp b hb').2⟩
  · rintro k (hk | hk)
    · exact Nat.lt_of_lt_of_le (h.lt k hk) t25.size
    · exact hw2l k hk
  · rintro (hk | hk)
    · exact h.no hk
    · have := (hv'b _ hk).2.1; omega
set_option maxHeartbeats 4000000 in
theorem marksAll_upto {w : World} {p g q cap : Nat} {S : SS} {l : List O} {R : Nat → Prop} (hRl : ∀ k, R k → k < w.heap.size) (hS : ∀ wr, Touch (fun k => ¬ R k) w wr → SeqRd wr p S)
    (rg : R g) (hle : l.length ≤ cap) (hmx : cap ≤ maxLen) (hl : ∀ i (h : i < l.length), w.rangeAt g (q + i * 22) l[i].vals.toList) (hf : ∀ o ∈ l, o.fits) (hky : ∀ o ∈ l, o.ky.size ≤ maxLen) (hll : l.length ≤ 1000000) (Post : Ending → World → Prop)
    (hrest : ∀ (D n : Nat) (es : List (Key × Value)) (Ψ : Nat → Prop) (W2 : World), w.heap.size + 4 ≤ D → ¬ Ψ D → AllI w (spansM S l) Ψ W2 n es → W2.heap[D]? = some (.deferred (some [])) → (restOf Tryz.f12).wpIn Fence.wide 3 Tryz.prog (bodyPostM Fence.wide 3 Tryz.prog Tryz.f12 Post) { tmps := #[.pointer (some ⟨p, 0, none⟩), .slice (some ⟨g, q, none⟩) l.length cap, undef, undef, .slice none 0 0, .pointer (some ⟨w.heap.size + 1, 0, none⟩), undef, undef, undef, undef, undef, undef, undef, .map (some w.heap.size), .pointer (some ⟨p, 0, none⟩), .slice (some ⟨g, q, none⟩) l.length cap, .func (.func 59) #[] #[.pointer (some ⟨w.heap.size + 1 + 1 + 1, 0, none⟩), .pointer (some ⟨w.heap.size + 1 + 1, 0, none⟩)], undef, undef, undef, undef, undef, undef, undef, undef, undef, undef, undef, undef, undef, undef, undef, undef, undef, undef, undef, undef, undef, undef, undef, undef, undef, undef, undef, undef, undef, undef, undef, undef, undef, undef, undef, undef, undef, undef, undef, undef, undef, undef, undef, undef, undef, undef, undef, undef, undef, undef, undef, undef, undef, undef, undef, undef, undef, undef, undef, undef], defers := [{ target := .collected D, args := #[] }] } W2) :
    Calls Tryz.prog 12 #[.pointer (some ⟨p, 0, none⟩), .slice (some ⟨g, q, none⟩) l.length cap] w Post := by
  have hmm := @run_makeMap Tryz.prog
  refine (callsIn_wide (n := 3)).1 ?_
  refine callsIn_of_wp_marks Tryz.func12 rfl trivial ?_ rfl
  simp only [Tryz.ntmps12, List.size_toArray, List.length_cons, List.length_nil, Nat.reduceAdd, Nat.reduceSub, Array.replicate_succ, Array.replicate_zero, List.push_toArray, List.append_toArray, List.nil_append, List.cons_append]
  gi_wp2_with fail
  refine ⟨trivial, (callsIn_wide.2 (spans_any _ _ _ ⟨_, rfl⟩ ⟨_, _, _, rfl⟩)).mono ?_⟩
  rintro e W1 ⟨rfl, hW1⟩
  rw [World.size_alloc, World.size_alloc]
  have hs1 : W1.heap.size = w.heap.size + 4 := by rw [hW1]; simp
  have t1 : Touch (fun _ => False) w W1 := by rw [hW1]; exact ((((Touch.refl _ w).alloc _).alloc _).alloc _).alloc _
  have b2 : W1.heap[w.heap.size + 1]? = some (.cells #[.map (some w.heap.size)] 83 (0, 0)) := by
    have := World.alloc_heap_new (w.alloc (.map #[] 0)) (.cells #[.map (some w.heap.size)] 83 (0, 0))
    rw [World.size_alloc] at this
    rw [hW1]
    exact (Below.heap_alloc _ _ _ (by simp <;> omega)).trans ((Below.heap_alloc _ _ _ (by simp)).trans this)
  have b3 : W1.heap[w.heap.size + 1 + 1]? = some (.cells #[.pointer (some ⟨p, 0, none⟩)] 24 (0, 0)) := by
    have := World.alloc_heap_new ((w.alloc (.map #[] 0)).alloc (.cells #[.map (some w.heap.size)] 83 (0, 0))) (.cells #[.pointer (some ⟨p, 0, none⟩)] 24 (0, 0))
    rw [World.size_alloc, World.size_alloc] at this
    rw [hW1]
    exact (Below.heap_alloc _ _ _ (by simp)).trans this
  have b4 : W1.heap[w.heap.size + 1 + 1 + 1]? = some (.cells #[.slice (some ⟨g, q, none⟩) l.length cap] 41 (0, 0)) := by
    have := World.alloc_heap_new (((w.alloc (.map #[] 0)).alloc (.cells #[.map (some w.heap.size)] 83 (0, 0))).alloc (.cells #[.pointer (some ⟨p, 0, none⟩)] 24 (0, 0))) (.cells #[.slice (some ⟨g, q, none⟩) l.length cap] 41 (0, 0))
    rw [World.size_alloc, World.size_alloc, World.size_alloc] at this
    rw [hW1]
    exact this
  have o1 : W1.ownsMap Tryz.prog 9 heldO w.heap.size 0 (toV []) := by
    have h0 := World.ownsMap_made w Tryz.prog 9 heldO
    rw [hW1]
    exact ((h0.alloc _).alloc _).alloc _
  clear hW1
  gi_wp2
  have HSp : SeqP Tryz.prog 59 #[.pointer (some ⟨w.heap.size + 1 + 1 + 1, 0, none⟩), .pointer (some ⟨w.heap.size + 1 + 1, 0, none⟩)] (fun x : Spn => #[spnV x.f x.t x.o]) (fun k => R k ∨ k = w.heap.size + 1 + 1 ∨ k = w.heap.size + 1 + 1 + 1) (spansM S l) W1 :=
    spans_stops (fun k hk => by rcases hk with hk | hk | hk; (have := hRl k hk; omega); omega; omega) (fun wr t => hS wr ((t1.mono fun _ _ q => q.elim).trans (t.mono fun k _ hk hr => hk (.inl hr)))) b4 b3 (.inr (.inr rfl)) (.inr (.inl rfl)) (.inl rg) hle hmx (fun i h => World.rangeAt_keep (hl i h) t1 id) hf
  refine wp_range (gf := 59) (lb := #[.pointer (some ⟨w.heap.size + 1 + 1 + 1, 0, none⟩), .pointer (some ⟨w.heap.size + 1 + 1, 0, none⟩)]) rfl (enters_of Tryz.func59 (by kernel_rfl) rfl)
    HSp (Touch.refl _ _) ?hRw (fun _ => rfl) (AllE w) (fun _ _ Ω W' => False ∧ ∀ k, Ω k → k < W'.heap.size) (AllE.foot (by omega)) (fun c => ⟨fun _ _ _ _ h _ => h.1.elim, fun _ _ _ h => h.2⟩) (fun k => k = w.heap.size) ?hR ?h0
    (fun x a' pre Ω W' => ∃ n es, AllI w pre Ω W' n es ∧ ∃ X, Ω X ∧ w.heap.size + 1 < X ∧ (∀ p ∈ es, p.2.ownBlock ≠ some X) ∧ W'.heap[X]? = some (spnO x) ∧ a' = { tmps := #[.pointer (some ⟨p, 0, none⟩), .slice (some ⟨g, q, none⟩) l.length cap, undef, undef, .slice none 0 0, .pointer (some ⟨w.heap.size + 1, 0, none⟩), .pointer (some ⟨X, 0, none⟩), undef, undef, undef, undef, undef, undef, .map (some w.heap.size), .pointer (some ⟨p, 0, none⟩), .slice (some ⟨g, q, none⟩) l.length cap, .func (.func 59) #[] #[.pointer (some ⟨w.heap.size + 1 + 1 + 1, 0, none⟩), .pointer (some ⟨w.heap.size + 1 + 1, 0, none⟩)], spnV x.f x.t x.o, undef, undef, undef, undef, undef, undef, undef, undef, undef, undef, undef, undef, undef, undef, undef, undef, undef, undef, undef, undef, undef, undef, undef, undef, undef, undef, undef, undef, undef, undef, undef, undef, undef, undef, undef, undef, undef, undef, undef, undef, undef, undef, undef, undef, undef, undef, undef, undef, undef, undef, undef, undef, undef, undef, undef, undef, undef, undef, undef], defers := [] }) ?fA ?assign ?body ?done ?stop
  case hRw =>
    rintro k (hk | rfl | rfl)
    · have := hRl k hk; omega
    · omega
    · omega
  case hR =>
    rintro k (hk | rfl | rfl) e
    · have := hRl k hk; omega
    · omega
    · omega
  case h0 => exact ⟨0, [], b2, o1, Nat.le_refl _, Nat.le_refl _, List.Pairwise.nil, fun p hp => (List.not_mem_nil hp).elim, fun k _ => rfl, fun p hp => (List.not_mem_nil hp).elim, fun p hp => (List.not_mem_nil hp).elim, fun p hp => (List.not_mem_nil hp).elim, t1, rfl, fun k e => by omega, by omega⟩
  case fA =>
    refine fun x a' => ⟨?_, fun s Ω A q => by obtain ⟨n, es, q, _⟩ := q; exact q.lt⟩
    rintro s Ω A A2 ⟨n, es, q1, X, q2, q5, q6, q3, q4⟩ t
    exact ⟨n, es, q1.keep (by omega) t, X, q2, q5, q6, (t.block _ (lt_of_heap q3) fun h => h.2 q2).trans q3, q4⟩
  case assign =>
    rintro y pre x Ω W' K ⟨n, es, hI⟩ hK
    iterate 1 (first | go_values | gi_guarded | gi_step)
    iterate 1 (first | go_values | gi_guarded | gi_step)
    refine wpListIn_plain rfl fun K2 hK2 => ?_
    go_simp
    refine hK2 _ _ ?_
    clear hK2 K2
    refine wpListIn_store_mid rfl 88 (.tmp 6) (.tmp 17) rfl W'.heap.size 0 x.vals rfl rfl (there_ofS (heap_alloc_new W' zeroSpn) 0 24 (by decide)) (by kernel_rfl) (by kernel_rfl) ?_
    simp only [Act.put]
    refine wpListIn_nil ?_
    obtain ⟨t, hb⟩ := newSpn W' x
    have hsz : w.heap.size + 1 < W'.heap.size := lt_of_heap hI.wb
    refine hK _ _ (fun k => Ω k ∨ k = W'.heap.size) (t.mono fun _ _ q => q.elim) (fun k h => h.imp id fun e => by omega) ⟨n, es, ?_, W'.heap.size, .inr rfl, hsz, fun p hp e => ?_, hb, rfl⟩
    · exact ⟨heap_keep t hI.wb, ownsO_touch hI.own t id, hI.le, hI.elen, hI.rise, fun p hp => ownX_touch (hI.rows p hp) t fun _ _ => id, hI.keys, hI.full, hI.apart, fun p hp b hb => ⟨.inl (hI.blk p hp b hb).1, (hI.blk p hp b hb).2⟩, hI.t.trans t, .inl hI.o, fun k h => by rcases h with h | h; exact Nat.lt_of_lt_of_le (hI.lt k h) t.size; rw [h]; exact lt_of_heap hb, fun h => h.elim hI.no fun e => by omega⟩
    · have := hI.lt _ (hI.blk p hp _ e).1
      omega
  case body =>
    rintro y pre x a' Ω W2 hsz hRk hpre ⟨n, es, hI, X, hX, hXl, hXo, hXb, rfl⟩
    have hKy : x.o.ky.size ≤ maxLen := by
      have hm : x ∈ spansM S l := hpre.subset (by simp)
      obtain ⟨o, ho, e⟩ := List.mem_filterMap.1 hm
      unfold spanM at e
      split at e
      · cases e; exact hky o ho
      · cases e
    have h1 := hpre.length_le
    have h2 : (spansM S l).length ≤ l.length := List.length_filterMap_le _ _
    have h3 := hI.le
    simp only [List.length_append, List.length_singleton] at h1
    refine wpIn_block ?_
    refine all_reg4 ?hL (w.heap.size + 1) X w.heap.size n x es _ _ _ _ _ _ _ _ hI.wb hXb (by omega) (by omega) hI.own (by unfold maxLen; omega) hKy ?_
    case hL => rintro ⟨_, _, h⟩; exact h
    intro V tV
    obtain ⟨v', w2, a1, a2, a3, a4, a5⟩ := hI.app (x := x) (by omega) (lt_of_heap hXb) hXo tV
    exact ⟨v', w2, a1, a2, a3, a4, fun W5 o5 t5 => a5 W5 o5 t5⟩
  case done =>
    rintro D Ψ W2 hD hn ht hs ⟨n, es, hI⟩ hd
    have HR := hrest D n es Ψ W2 (by omega) hn hI hd
    clear hrest
    gi_step
    gi_step
    exact HR
  case stop =>
    rintro D c pre Ψ W2 hD hn ht hs hp hx
    exact hx.1.elim
end Go.Proofs.YtnilikomoapcaaaGreat

/- Package marks: At. -/
import Derived.Test.YtnilikomoapcaaaGreatPart23
import Derived.Test.YtnilikomoapcaaaGreatPart24
import Derived.Carry
namespace Go.Proofs.YtnilikomoapcaaaGreat
open Go.RowKit Go.Shelf Go.Maps
set_option linter.unusedVariables false
set_option linter.unusedSimpArgs false
set_option maxRecDepth 100000
attribute [local go_sem] Oper.semAt_some

abbrev Spn.vals (x : Spn) : Array Value := #[.int .i64 x.f, .int .i64 x.t, .int .u64 x.o.c, .int .u64 x.o.k, .int .i64 x.o.kind, .int .u64 x.o.st, .int .u64 x.o.lc, .int .u64 x.o.lk, .int .u64 x.o.rc, .int .u64 x.o.rk, .string x.o.tx, .int .i64 x.o.vk, .int .i64 x.o.vn, .float .f64 x.o.vf, .string x.o.vs, .string x.o.ky, .int .u64 x.o.pc, .int .u64 x.o.pk, .int .u64 x.o.fc, .int .u64 x.o.fk, .bool x.o.fa, .int .u64 x.o.tc, .int .u64 x.o.tk, .bool x.o.ta]
abbrev zeroSpn : Obj := .cells #[.int .i64 0, .int .i64 0, .int .u64 0, .int .u64 0, .int .i64 0, .int .u64 0, .int .u64 0, .int .u64 0, .int .u64 0, .int .u64 0, .string ⟨#[]⟩, .int .i64 0, .int .i64 0, .float .f64 0, .string ⟨#[]⟩, .string ⟨#[]⟩, .int .u64 0, .int .u64 0, .int .u64 0, .int .u64 0, .bool false, .int .u64 0, .int .u64 0, .bool false] 88
/-- A new box, and a span stored in it. -/
theorem newSpn (W : World) (x : Spn) : Touch (fun _ => False) W ((W.alloc zeroSpn).setCells W.heap.size 0 x.vals.toList) ∧ ((W.alloc zeroSpn).setCells W.heap.size 0 x.vals.toList).heap[W.heap.size]? = some (spnO x) := by
  refine ⟨((Touch.refl _ _).alloc _).stored (Nat.le_refl _) 0 _, ?_⟩
  rw [cells_storedS (heap_alloc_new W zeroSpn)]
  kernel_rfl
theorem lookO_run {w : World} {m n : Nat} {es : List (Key × O)} (h : w.ownsMap Tryz.prog 9 heldO m n (toO es)) (s : ByteArray) (hs : s.size ≤ maxLen) :
    (Instr.lookup 102 (.map (some m)) (.string s) true).run Tryz.prog w = .ok (.tuple #[(getO s.data.toList es).val, .bool (aget s.data.toList es).isSome]) w := by
  obtain ⟨v, ps, hrun, hv⟩ := h.look_ok lawS Tryz.underlying102 (zeroOpRun w) (R := heldO) rfl (keyStrO s hs)
  rw [toO_at] at hv
  rw [toO_has] at hrun
  simp only [heldO, Option.some.injEq, Prod.mk.injEq, DataW.held.injEq] at hv
  rw [hrun, hv.1]
/-- The winners of a place, as the program's map holds them. -/
def winsM (place : Int) (es : List (Key × O)) (x : Spn) : List (Key × O) := if place < x.f ∨ x.t ≤ place then es else winP lessM x.o.ky.data.toList x.o es
/-- Between two rounds. -/
structure AtI (w : World) (place : Int) (pre : List Spn) (Ω : Nat → Prop) (W : World) (n : Nat) : Prop where
  pl : W.heap[w.heap.size]? = some (.cells #[.int .i64 place] 3 (0, 0))
  wb : W.heap[w.heap.size + 1 + 1]? = some (.cells #[.map (some (w.heap.size + 1))] 102 (0, 0))
  own : W.ownsMap Tryz.prog 9 heldO (w.heap.size + 1) n (toO (pre.foldl (winsM place) []))
  le : n ≤ pre.length
  t : Touch (fun _ => False) w W
  o : Ω (w.heap.size + 1)
  lt : ∀ k, Ω k → k < W.heap.size
  no : ¬ Ω w.heap.size ∧ ¬ Ω (w.heap.size + 1 + 1)
def AtE (w : World) (place : Int) (pre : List Spn) (Ω : Nat → Prop) (W : World) : Prop := ∃ n, AtI w place pre Ω W n
theorem AtI.keep {w : World} {place : Int} {pre : List Spn} {Ω : Nat → Prop} {A B : World} {m n : Nat} (hm : w.heap.size + 2 < m) (h : AtI w place pre Ω A n) (t : Touch (fun k => m ≤ k ∧ ¬ Ω k) A B) : AtI w place pre Ω B n :=
  ⟨(t.block _ (lt_of_heap h.pl) fun q => absurd q.1 (by omega)).trans h.pl, (t.block _ (lt_of_heap h.wb) fun q => absurd q.1 (by omega)).trans h.wb, ownsO_touch h.own t fun q => absurd q.1 (by omega), h.le, h.t.then t fun k hk q => absurd q.1 (by omega), h.o, fun k hk => Nat.lt_of_lt_of_le (h.lt k hk) t.size, h.no⟩
theorem AtE.foot {w : World} {place : Int} {m : Nat} (hm : w.heap.size + 2 < m) : Foot m (AtE w place) := ⟨fun s Ω A B ⟨n, h⟩ t => ⟨n, h.keep hm t⟩, fun s Ω A ⟨n, h⟩ => h.lt⟩
theorem AtI.put {w : World} {place : Int} {pre : List Spn} {Ω : Nat → Prop} {W2 W3 W5 : World} {n : Nat} {x : Spn} (h : AtI w place pre Ω W2 n) (t : Touch (fun _ => False) W2 W3)
    (ho : W5.ownsMap Tryz.prog 9 heldO (w.heap.size + 1) (n + 1) (toO (aput x.o.ky.data.toList x.o (pre.foldl (winsM place) [])))) (ht : W3.mapTurned W5 (w.heap.size + 1))
    (hw : winsM place (pre.foldl (winsM place) []) x = aput x.o.ky.data.toList x.o (pre.foldl (winsM place) [])) : Touch Ω W2 W5 ∧ AtI w place (pre ++ [x]) Ω W5 (n + 1) := by
  have t5 : Touch (fun k => k = w.heap.size + 1) W2 W5 := (t.mono fun _ _ q => q.elim).grown ht.grown fun i e _ => by simpa using e.symm
  refine ⟨t5.mono fun k _ e => e ▸ h.o, ?_⟩
  exact ⟨(t5.block _ (lt_of_heap h.pl) (by omega)).trans h.pl, (t5.block _ (lt_of_heap h.wb) (by omega)).trans h.wb, by rw [List.foldl_append]; simp only [List.foldl_cons, List.foldl_nil, hw]; exact ho, by have := h.le; simp; omega, h.t.then t5 fun k hk e => by omega, h.o, fun k hk => Nat.lt_of_lt_of_le (h.lt k hk) t5.size, h.no⟩
theorem AtI.same {w : World} {place : Int} {pre : List Spn} {Ω : Nat → Prop} {W2 W3 : World} {n : Nat} {x : Spn} (h : AtI w place pre Ω W2 n) (t : Touch (fun _ => False) W2 W3)
    (hw : winsM place (pre.foldl (winsM place) []) x = pre.foldl (winsM place) []) : Touch Ω W2 W3 ∧ AtI w place (pre ++ [x]) Ω W3 n :=
  ⟨t.mono fun _ _ q => q.elim, heap_keep t h.pl, heap_keep t h.wb, by rw [List.foldl_append]; simp only [List.foldl_cons, List.foldl_nil, hw]; exact ownsO_touch h.own t id, by have := h.le; simp; omega, h.t.trans t, h.o, fun k hk => Nat.lt_of_lt_of_le (h.lt k hk) t.size, h.no⟩
/-- What a function like At does behind its range. -/
def restOf (f : Func) : Code := match f.body with
  | some (.seq _ (.seq _ (.seq _ r))) => r
  | _ => .skip
set_option maxHeartbeats 4000000 in
theorem marksAt_upto {w : World} {p g q cap : Nat} {S : SS} {l : List O} {R : Nat → Prop} (hRl : ∀ k, R k → k < w.heap.size) (hS : ∀ wr, Touch (fun k => ¬ R k) w wr → SeqRd wr p S)
    (rg : R g) (hle : l.length ≤ cap) (hmx : cap ≤ maxLen) (hl : ∀ i (h : i < l.length), w.rangeAt g (q + i * 22) l[i].vals.toList) (hf : ∀ o ∈ l, o.fits) (hky : ∀ o ∈ l, o.ky.size ≤ maxLen) (place : Int) (Post : Ending → World → Prop)
    (hrest : ∀ (D n : Nat) (Ψ : Nat → Prop) (W2 : World), w.heap.size + 5 ≤ D → ¬ Ψ D → AtI w place (spansM S l) Ψ W2 n → W2.heap[D]? = some (.deferred (some [])) → (restOf Tryz.f17).wpIn Fence.wide 3 Tryz.prog (bodyPostM Fence.wide 3 Tryz.prog Tryz.f17 Post) { tmps := #[.pointer (some ⟨p, 0, none⟩), .slice (some ⟨g, q, none⟩) l.length cap, .int .i64 place, undef, undef, .pointer (some ⟨w.heap.size, 0, none⟩), .slice none 0 0, .pointer (some ⟨w.heap.size + 1 + 1, 0, none⟩), undef, undef, undef, undef, undef, undef, undef, .map (some (w.heap.size + 1)), .pointer (some ⟨p, 0, none⟩), .slice (some ⟨g, q, none⟩) l.length cap, .func (.func 59) #[] #[.pointer (some ⟨w.heap.size + 1 + 1 + 1 + 1, 0, none⟩), .pointer (some ⟨w.heap.size + 1 + 1 + 1, 0, none⟩)], undef, undef, undef, undef, undef, undef, undef, undef, undef, undef, undef, undef, undef, undef, undef, undef, undef, undef, undef, undef, undef, undef, undef, undef, undef, undef, undef, undef, undef, undef, undef, undef, undef, undef, undef, undef, undef, undef, undef, undef, undef, undef, undef, undef, undef, undef, undef, undef, undef, undef, undef, undef, undef], defers := [{ target := .collected D, args := #[] }] } W2) :
    Calls Tryz.prog 17 #[.pointer (some ⟨p, 0, none⟩), .slice (some ⟨g, q, none⟩) l.length cap, .int .i64 place] w Post := by
  have hmm := @run_makeMap Tryz.prog
  refine (callsIn_wide (n := 3)).1 ?_
  refine callsIn_of_wp_marks Tryz.func17 rfl trivial ?_ rfl
  simp only [Tryz.ntmps17, List.size_toArray, List.length_cons, List.length_nil, Nat.reduceAdd, Nat.reduceSub, Array.replicate_succ, Array.replicate_zero, List.push_toArray, List.append_toArray, List.nil_append, List.cons_append]
  gi_wp2_with fail
  refine ⟨trivial, (callsIn_wide.2 (spans_any _ _ _ ⟨_, rfl⟩ ⟨_, _, _, rfl⟩)).mono ?_⟩
  rintro e W1 ⟨rfl, hW1⟩
  rw [World.size_alloc, World.size_alloc, World.size_alloc]
  have hs1 : W1.heap.size = w.heap.size + 5 := by rw [hW1]; simp
  have t1 : Touch (fun _ => False) w W1 := by rw [hW1]; exact (((((Touch.refl _ w).alloc _).alloc _).alloc _).alloc _).alloc _
  have b0 : W1.heap[w.heap.size]? = some (.cells #[.int .i64 place] 3 (0, 0)) := by
    rw [hW1]
    exact (Below.heap_alloc _ _ _ (by simp <;> omega)).trans ((Below.heap_alloc _ _ _ (by simp <;> omega)).trans ((Below.heap_alloc _ _ _ (by simp <;> omega)).trans ((Below.heap_alloc _ _ _ (by simp)).trans (World.alloc_heap_new _ _))))
  have b2 : W1.heap[w.heap.size + 1 + 1]? = some (.cells #[.map (some (w.heap.size + 1))] 102 (0, 0)) := by
    have := World.alloc_heap_new ((w.alloc (.cells #[.int .i64 place] 3)).alloc (.map #[] 0)) (.cells #[.map (some (w.heap.size + 1))] 102 (0, 0))
    rw [World.size_alloc, World.size_alloc] at this
    rw [hW1]
    exact (Below.heap_alloc _ _ _ (by simp <;> omega)).trans ((Below.heap_alloc _ _ _ (by simp)).trans this)
  have b3 : W1.heap[w.heap.size + 1 + 1 + 1]? = some (.cells #[.pointer (some ⟨p, 0, none⟩)] 24 (0, 0)) := by
    have := World.alloc_heap_new (((w.alloc (.cells #[.int .i64 place] 3)).alloc (.map #[] 0)).alloc (.cells #[.map (some (w.heap.size + 1))] 102 (0, 0))) (.cells #[.pointer (some ⟨p, 0, none⟩)] 24 (0, 0))
    rw [World.size_alloc, World.size_alloc, World.size_alloc] at this
    rw [hW1]
    exact (Below.heap_alloc _ _ _ (by simp)).trans this
  have b4 : W1.heap[w.heap.size + 1 + 1 + 1 + 1]? = some (.cells #[.slice (some ⟨g, q, none⟩) l.length cap] 41 (0, 0)) := by
    have := World.alloc_heap_new ((((w.alloc (.cells #[.int .i64 place] 3)).alloc (.map #[] 0)).alloc (.cells #[.map (some (w.heap.size + 1))] 102 (0, 0))).alloc (.cells #[.pointer (some ⟨p, 0, none⟩)] 24 (0, 0))) (.cells #[.slice (some ⟨g, q, none⟩) l.length cap] 41 (0, 0))
    rw [World.size_alloc, World.size_alloc, World.size_alloc, World.size_alloc] at this
    rw [hW1]
    exact this
  have o1 : W1.ownsMap Tryz.prog 9 heldO (w.heap.size + 1) 0 (toO []) := by
    have h0 := World.ownsMap_made (w.alloc (.cells #[.int .i64 place] 3)) Tryz.prog 9 heldO
    rw [World.size_alloc] at h0
    rw [hW1]
    exact ((h0.alloc _).alloc _).alloc _
  clear hW1
  gi_wp2
  have HSp : SeqP Tryz.prog 59 #[.pointer (some ⟨w.heap.size + 1 + 1 + 1 + 1, 0, none⟩), .pointer (some ⟨w.heap.size + 1 + 1 + 1, 0, none⟩)] (fun x : Spn => #[spnV x.f x.t x.o]) (fun k => R k ∨ k = w.heap.size + 1 + 1 + 1 ∨ k = w.heap.size + 1 + 1 + 1 + 1) (spansM S l) W1 :=
    spans_stops (fun k hk => by rcases hk with hk | hk | hk; (have := hRl k hk; omega); omega; omega) (fun wr t => hS wr ((t1.mono fun _ _ q => q.elim).trans (t.mono fun k _ hk hr => hk (.inl hr)))) b4 b3 (.inr (.inr rfl)) (.inr (.inl rfl)) (.inl rg) hle hmx (fun i h => World.rangeAt_keep (hl i h) t1 id) hf
  refine wp_range (gf := 59) (lb := #[.pointer (some ⟨w.heap.size + 1 + 1 + 1 + 1, 0, none⟩), .pointer (some ⟨w.heap.size + 1 + 1 + 1, 0, none⟩)]) rfl (enters_of Tryz.func59 (by kernel_rfl) rfl)
    HSp (Touch.refl _ _) ?hRw (fun _ => rfl) (AtE w place) (fun _ _ Ω W' => False ∧ ∀ k, Ω k → k < W'.heap.size) (AtE.foot (by omega)) (fun c => ⟨fun _ _ _ _ h _ => h.1.elim, fun _ _ _ h => h.2⟩) (fun k => k = w.heap.size + 1) ?hR ?h0
    (fun x a' pre Ω W' => AtE w place pre Ω W' ∧ ∃ X, Ω X ∧ w.heap.size + 1 + 1 < X ∧ W'.heap[X]? = some (spnO x) ∧ a' = { tmps := #[.pointer (some ⟨p, 0, none⟩), .slice (some ⟨g, q, none⟩) l.length cap, .int .i64 place, undef, undef, .pointer (some ⟨w.heap.size, 0, none⟩), .slice none 0 0, .pointer (some ⟨w.heap.size + 1 + 1, 0, none⟩), .pointer (some ⟨X, 0, none⟩), undef, undef, undef, undef, undef, undef, .map (some (w.heap.size + 1)), .pointer (some ⟨p, 0, none⟩), .slice (some ⟨g, q, none⟩) l.length cap, .func (.func 59) #[] #[.pointer (some ⟨w.heap.size + 1 + 1 + 1 + 1, 0, none⟩), .pointer (some ⟨w.heap.size + 1 + 1 + 1, 0, none⟩)], spnV x.f x.t x.o, undef, undef, undef, undef, undef, undef, undef, undef, undef, undef, undef, undef, undef, undef, undef, undef, undef, undef, undef, undef, undef, undef, undef, undef, undef, undef, undef, undef, undef, undef, undef, undef, undef, undef, undef, undef, undef, undef, undef, undef, undef, undef, undef, undef, undef, undef, undef, undef, undef, undef, undef, undef], defers := [] }) ?fA ?assign ?body ?done ?stop
  case hRw =>
    rintro k (hk | rfl | rfl)
    · have := hRl k hk; omega
    · omega
    · omega
  case hR =>
    rintro k (hk | rfl | rfl) e
    · have := hRl k hk; omega
    · omega
    · omega
  case h0 => exact ⟨0, b0, b2, o1, Nat.le_refl _, t1, rfl, fun k e => by omega, by omega, by omega⟩
  case fA =>
    refine fun x a' => ⟨?_, fun s Ω A q => (AtE.foot (m := W1.heap.size) (by omega)).lt _ _ _ q.1⟩
    rintro s Ω A A2 ⟨q1, X, q2, q5, q3, q4⟩ t
    exact ⟨(AtE.foot (by omega)).keep _ _ _ _ q1 t, X, q2, q5, (t.block _ (lt_of_heap q3) fun h => h.2 q2).trans q3, q4⟩
  case assign =>
    rintro y pre x Ω W' K ⟨n, hI⟩ hK
    iterate 1 (first | go_values | gi_guarded | gi_step)
    iterate 1 (first | go_values | gi_guarded | gi_step)
    refine wpListIn_plain rfl fun K2 hK2 => ?_
    go_simp
    refine hK2 _ _ ?_
    clear hK2 K2
    refine wpListIn_store_mid rfl 88 (.tmp 8) (.tmp 19) rfl W'.heap.size 0 x.vals rfl rfl (there_ofS (heap_alloc_new W' zeroSpn) 0 24 (by decide)) (by kernel_rfl) (by kernel_rfl) ?_
    simp only [Act.put]
    refine wpListIn_nil ?_
    obtain ⟨t, hb⟩ := newSpn W' x
    have hsz : w.heap.size + 1 + 1 < W'.heap.size := lt_of_heap hI.wb
    refine hK _ _ (fun k => Ω k ∨ k = W'.heap.size) (t.mono fun _ _ q => q.elim) (fun k h => h.imp id fun e => by omega) ⟨⟨n, ?_⟩, W'.heap.size, .inr rfl, hsz, hb, rfl⟩
    exact ⟨heap_keep t hI.pl, heap_keep t hI.wb, ownsO_touch hI.own t id, hI.le, hI.t.trans t, .inl hI.o, fun k h => by rcases h with h | h; exact Nat.lt_of_lt_of_le (hI.lt k h) t.size; rw [h]; exact lt_of_heap hb, fun h => h.elim hI.no.1 fun e => by omega, fun h => h.elim hI.no.2 fun e => by omega⟩
  case body =>
    rintro y pre x a' Ω W2 hsz hRk hpre ⟨⟨n, hI⟩, X, hX, hXl, hXb, rfl⟩
    have HKy : Hid (x.o.ky.size ≤ maxLen) := by
      have hm : x ∈ spansM S l := hpre.subset (by simp)
      obtain ⟨o, ho, e⟩ := List.mem_filterMap.1 hm
      unfold spanM at e
      split at e
      · cases e; exact hky o ho
      · cases e
    have HI : Hid (AtI w place pre Ω W2 n) := hI
    have HX : Hid (Ω X ∧ w.heap.size + 1 + 1 < X ∧ W2.heap[X]? = some (spnO x)) := ⟨hX, hXl, hXb⟩
    have HLn : Hid (n < maxLen) := by
      have h1 := hpre.length_le
      have h2 : (spansM S l).length ≤ l.length := List.length_filterMap_le _ _
      have h3 := hI.le
      simp only [List.length_append, List.length_singleton] at h1
      rw [Hid]
      omega
    have c0 : W2.cell? ⟨w.heap.size, 0, none⟩ = some (.int .i64 place) := by rw [cell_of_block hI.pl]; rfl
    have x0 : W2.cell? ⟨X, 0, none⟩ = some (.int .i64 x.f) := by rw [cell_of_block hXb]; rfl
    have x1 : W2.cell? ⟨X, 1, none⟩ = some (.int .i64 x.t) := by rw [cell_of_block hXb]; rfl
    have x15 : W2.cell? ⟨X, 15, none⟩ = some (.string x.o.ky) := by rw [cell_of_block hXb]; rfl
    have c2 : W2.cell? ⟨w.heap.size + 1 + 1, 0, none⟩ = some (.map (some (w.heap.size + 1))) := by rw [cell_of_block hI.wb]; rfl
    have HSkip : Hid ((place < x.f ∨ x.t ≤ place) → AtI w place (pre ++ [x]) Ω W2 n) := fun h => ⟨hI.pl, hI.wb, by rw [List.foldl_append]; simp only [List.foldl_cons, List.foldl_nil, winsM, if_pos h]; exact hI.own, Nat.le_trans hI.le (by simp), hI.t, hI.o, hI.lt, hI.no⟩
    clear hrest hI hX hXl hXb hRk hpre hsz b0 b2 b3 b4 o1 t1 HSp hl hf hS hRl rg hle
    by_cases h1 : place < x.f
    · have d1 : decide (place < x.f) = true := by simpa using h1
      have HS1 := HSkip.out (.inl h1)
      have HS2 : Hid (AtI w place (pre ++ [x]) Ω W2 n) := HS1
      clear HS1 h1 HSkip
      gi_wp2_with fail
      exact ⟨Touch.refl _ _, Ω, Swells.refl _ _, n, HS2.out⟩
    · have d1 : decide (place < x.f) = false := by simpa using h1
      by_cases h2 : x.t ≤ place
      · have d2 : decide (place ≥ x.t) = true := by simpa using h2
        have HS2 : Hid (AtI w place (pre ++ [x]) Ω W2 n) := HSkip.out (.inr h2)
        clear h1 h2 HSkip
        gi_wp2_with fail
        exact ⟨Touch.refl _ _, Ω, Swells.refl _ _, n, HS2.out⟩
      · have d2 : decide (place ≥ x.t) = false := by simpa using h2
        have HW : Hid (∀ es, winsM place es x = winP lessM x.o.ky.data.toList x.o es) := fun es => by rw [winsM, if_neg]; rintro (h | h); exact h1 h; exact h2 h
        clear h1 h2 HSkip
        iterate 50 (first | go_values | gi_guarded | gi_step)
        refine wpListIn_plain rfl fun K hK => ?_
        go_simp
        refine hK _ _ ?_
        clear hK K
        refine wpListIn_plain rfl fun K hK => ?_
        go_simp
        refine hK _ _ ?_
        clear hK K
        refine wpListIn_lookO W2 rfl (.tmp 31) (.tmp 34) rfl (w.heap.size + 1) n (pre.foldl (winsM place) []) rfl HI.out.own x.o.ky HKy.out rfl ?_
        simp only [Act.put, List.setIfInBounds_toArray, List.set_cons_succ, List.set_cons_zero]
        obtain ⟨bo, hb0⟩ : ∃ bo, bo = getO x.o.ky.data.toList (pre.foldl (winsM place) []) := ⟨_, rfl⟩
        obtain ⟨hh, hh0⟩ : ∃ hh, hh = (aget x.o.ky.data.toList (pre.foldl (winsM place) [])).isSome := ⟨_, rfl⟩
        rw [← hb0, ← hh0]
        have HB0 : Hid (bo = getO x.o.ky.data.toList (pre.foldl (winsM place) []) ∧ hh = (aget x.o.ky.data.toList (pre.foldl (winsM place) [])).isSome) := ⟨hb0, hh0⟩
        clear hb0 hh0
        refine wpListIn_plain rfl fun K hK => ?_
        go_simp
        refine hK _ _ ?_
        clear hK K
        refine wpListIn_plain rfl fun K hK => ?_
        go_simp
        refine hK _ _ ?_
        clear hK K
        refine wpListIn_plain rfl fun K hK => ?_
        go_simp
        refine hK _ _ ?_
        clear hK K
        refine wpListIn_plain rfl fun K hK => ?_
        go_simp
        refine hK _ _ ?_
        clear hK K
        obtain ⟨W3, hW3⟩ : ∃ W3, Hid (W3 = (W2.alloc zeroOp).setCells W2.heap.size 0 bo.vals.toList) := ⟨_, Eq.refl _⟩
        have HW3 : Hid (Touch (fun _ => False) W2 W3 ∧ W3.heap[W2.heap.size]? = some (opO bo)) := by rw [hW3.out]; exact newOp W2 bo
        refine wpListIn_store_mid rfl 39 (.tmp 9) (.tmp 36) rfl W2.heap.size 0 bo.vals rfl rfl (there_ofS (heap_alloc_new W2 zeroOp) 0 22 (by decide)) (by kernel_rfl) (by kernel_rfl) ?_
        simp only [Act.put]
        rw [← hW3.out]
        clear hW3
        refine wpListIn_plain rfl fun K hK => ?_
        go_simp
        refine hK _ _ ?_
        clear hK K
        clear c0 x0 x1 x15 c2 d1 d2
        have HX3 : Hid (Ω X ∧ w.heap.size + 1 + 1 < X ∧ W3.heap[X]? = some (spnO x)) := ⟨HX.out.1, HX.out.2.1, heap_keep HW3.out.1 HX.out.2.2⟩
        have x15 : W3.cell? ⟨X, 15, none⟩ = some (.string x.o.ky) := by rw [cell_of_block HX3.out.2.2]; rfl
        have c2 : W3.cell? ⟨w.heap.size + 1 + 1, 0, none⟩ = some (.map (some (w.heap.size + 1))) := by rw [cell_of_block (heap_keep HW3.out.1 HI.out.wb)]; rfl
        generalize bo.val = v36
        generalize spnV x.f x.t x.o = v19
        cases hh with
        | false =>
          have HP : Hid (winsM place (pre.foldl (winsM place) []) x = aput x.o.ky.data.toList x.o (pre.foldl (winsM place) [])) := by
            rw [Hid, HW.out, winP]
            cases e : aget x.o.ky.data.toList (pre.foldl (winsM place) []) with
            | none => rfl
            | some v => have := HB0.out.2; rw [e] at this; cases this
          iterate 16 (first | go_values | gi_guarded | gi_step)
          refine ⟨trivial, ?_⟩
          iterate 9 (first | go_values | gi_guarded | gi_step)
          refine wpListIn_plain rfl fun K hK => ?_
          go_simp
          refine hK _ _ ?_
          clear hK K
          refine wpListIn_plain rfl fun K hK => ?_
          go_simp
          refine hK _ _ ?_
          clear hK K
          refine wpListIn_plain rfl fun K hK => ?_
          go_simp
          refine hK _ _ ?_
          clear hK K
          refine wpListIn_plain rfl fun K hK => ?_
          go_simp
          refine hK _ _ ?_
          clear hK K
          refine wpListIn_plain rfl fun K hK => ?_
          go_simp
          refine hK _ _ ?_
          clear hK K
          refine wpListIn_load_mid rfl 39 (.tmp 50) rfl X 2 rfl x.o.vals.toList _ (rangeAt_spn HX3.out.2.2) Tryz.underlying39 rfl (by kernel_rfl) ?_
          simp only [Act.put, List.setIfInBounds_toArray, List.set_cons_succ, List.set_cons_zero]
          refine wpListIn_putO W3 rfl (.tmp 46) (.tmp 49) (.tmp 51) rfl (w.heap.size + 1) n (pre.foldl (winsM place) []) rfl (ownsO_touch HI.out.own HW3.out.1 id) HLn.out x.o.ky HKy.out rfl x.o rfl ?_
          intro W5 ho ht
          obtain ⟨q1, q2⟩ := HI.out.put HW3.out.1 ho ht HP.out
          have HQ : Hid (Touch Ω W2 W5 ∧ AtI w place (pre ++ [x]) Ω W5 (n + 1)) := ⟨q1, q2⟩
          clear q1 q2 ho ht
          simp only [Act.put]
          gi_wp2_with fail
          exact ⟨HQ.out.1, Ω, Swells.refl _ _, n + 1, HQ.out.2⟩

        | true =>
          have HP1 : Hid (winsM place (pre.foldl (winsM place) []) x = if lessM bo x.o then aput x.o.ky.data.toList x.o (pre.foldl (winsM place) []) else pre.foldl (winsM place) []) := by
            rw [Hid, HW.out, winP, HB0.out.1, getO]
            cases e : aget x.o.ky.data.toList (pre.foldl (winsM place) []) with
            | none => have := HB0.out.2; rw [e] at this; cases this
            | some v => rfl
          iterate 14 (first | go_values | gi_guarded | gi_step)
          refine wpListIn_step fun K hK => ?_
          rw [if_pos (by kernel_rfl)]
          refine wpIn_load_mid 39 (.tmp 9) rfl W2.heap.size 0 rfl bo.vals.toList _ (rangeAt_ofS HW3.out.2) Tryz.underlying39 rfl (by kernel_rfl) (hK _ _ ?_)
          clear hK K
          simp only [Act.put, List.setIfInBounds_toArray, List.set_cons_succ, List.set_cons_zero]
          refine wpListIn_step fun K hK => ?_
          rw [if_pos (by kernel_rfl)]
          go_simp
          refine hK _ _ ?_
          clear hK K
          refine wpListIn_step fun K hK => ?_
          rw [if_pos (by kernel_rfl)]
          refine wpIn_load_mid 39 (.tmp 42) rfl X 2 rfl x.o.vals.toList _ (rangeAt_spn HX3.out.2.2) Tryz.underlying39 rfl (by kernel_rfl) (hK _ _ ?_)
          clear hK K
          simp only [Act.put, List.setIfInBounds_toArray, List.set_cons_succ, List.set_cons_zero]
          refine wpListIn_step fun K hK => ?_
          rw [if_pos (by kernel_rfl)]
          go_simp
          refine ⟨trivial, (CallsIn.inRound y (callsIn_wide.2 (mless_any bo x.o W3))).mono ?_⟩
          rintro e W4 ⟨rfl, t4⟩
          refine hK _ _ ?_
          clear hK K
          have HT4 : Hid (Touch (fun _ => False) W2 W4) := HW3.out.1.trans t4
          have HX4 : Hid (W4.heap[X]? = some (spnO x)) := heap_keep t4 HX3.out.2.2
          clear x15 c2
          have x15 : W4.cell? ⟨X, 15, none⟩ = some (.string x.o.ky) := by rw [cell_of_block HX4.out]; rfl
          have c2 : W4.cell? ⟨w.heap.size + 1 + 1, 0, none⟩ = some (.map (some (w.heap.size + 1))) := by rw [cell_of_block (heap_keep HT4.out HI.out.wb)]; rfl
          clear t4
          generalize lessM bo x.o = ls at *
          cases ls with
          | false =>
            have HP : Hid (winsM place (pre.foldl (winsM place) []) x = pre.foldl (winsM place) []) := HP1.out
            obtain ⟨q1, q2⟩ := HI.out.same HT4.out HP.out
            have HQ : Hid (Touch Ω W2 W4 ∧ AtI w place (pre ++ [x]) Ω W4 n) := ⟨q1, q2⟩
            clear q1 q2
            gi_wp2_with fail
            exact ⟨HQ.out.1, Ω, Swells.refl _ _, n, HQ.out.2⟩
          | true =>
            have HP : Hid (winsM place (pre.foldl (winsM place) []) x = aput x.o.ky.data.toList x.o (pre.foldl (winsM place) [])) := HP1.out
            iterate 8 (first | go_values | gi_guarded | gi_step)
            refine wpListIn_plain rfl fun K hK => ?_
            go_simp
            refine hK _ _ ?_
            clear hK K
            refine wpListIn_plain rfl fun K hK => ?_
            go_simp
            refine hK _ _ ?_
            clear hK K
            refine wpListIn_plain rfl fun K hK => ?_
            go_simp
            refine hK _ _ ?_
            clear hK K
            refine wpListIn_plain rfl fun K hK => ?_
            go_simp
            refine hK _ _ ?_
            clear hK K
            refine wpListIn_plain rfl fun K hK => ?_
            go_simp
            refine hK _ _ ?_
            clear hK K
            refine wpListIn_load_mid rfl 39 (.tmp 50) rfl X 2 rfl x.o.vals.toList _ (rangeAt_spn HX4.out) Tryz.underlying39 rfl (by kernel_rfl) ?_
            simp only [Act.put, List.setIfInBounds_toArray, List.set_cons_succ, List.set_cons_zero]
            refine wpListIn_putO W4 rfl (.tmp 46) (.tmp 49) (.tmp 51) rfl (w.heap.size + 1) n (pre.foldl (winsM place) []) rfl (ownsO_touch HI.out.own HT4.out id) HLn.out x.o.ky HKy.out rfl x.o rfl ?_
            intro W5 ho ht
            obtain ⟨q1, q2⟩ := HI.out.put HT4.out ho ht HP.out
            have HQ : Hid (Touch Ω W2 W5 ∧ AtI w place (pre ++ [x]) Ω W5 (n + 1)) := ⟨q1, q2⟩
            clear q1 q2 ho ht
            simp only [Act.put]
            gi_wp2_with fail
            exact ⟨HQ.out.1, Ω, Swells.refl _ _, n + 1, HQ.out.2⟩
  case done =>
    rintro D Ψ W2 hD hn ht hs ⟨n, hI⟩ hd
    have HR := hrest D n Ψ W2 (by omega) hn hI hd
    clear hrest
    gi_step
    gi_step
    exact HR
  case stop =>
    rintro D c pre Ψ W2 hD hn ht hs hp hx
    exact hx.1.elim
end Go.Proofs.YtnilikomoapcaaaGreat

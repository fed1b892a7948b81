/- quirelaw9.walks: going through a sequence, as far as one goes. -/
import Derived.Test.YtnbphdmpbjahhabItA
import Derived.Test.YtnbphdmpbjahhabPart23
import Derived.Deep.RegionHeld3
import Derived.Deep.DeepCutAuto
namespace Go.Proofs.Ytnbphdmpbjahhab
open Go.RowKit Go.Shelf
set_option linter.unusedVariables false
set_option linter.unusedSimpArgs false
set_option maxRecDepth 100000
attribute [local go_sem] Oper.semAt_some

theorem numd_get (S : SS) {pre : List (Nat × Un)} {x : Nat × Un} (h : pre ++ [x] <+: numd S S.spots) : ∃ hl : pre.length < S.units.length, x = (pre.length, S.units[pre.length]) := by
  obtain ⟨hl, -, hx⟩ := pre_snoc h
  rw [numd_len] at hl
  have hu : pre.length < S.units.length := by simpa [SS.units] using hl
  refine ⟨hu, ?_⟩
  rw [hx, units_get S _ hu hl]
  simp [numd]
/-- What lies in walks' boxes when so many have come. -/
structure WkI (w : World) (B : Bk) (p : Nat) (b : Bool) (k : Nat) (W' : World) : Prop where
  s : W'.heap[w.heap.size]? = some (.cells #[sP B] 24 (0, 0))
  a : W'.heap[w.heap.size + 1]? = some (.cells #[iV (p : Int)] 3 (0, 0))
  r : W'.heap[w.heap.size + 1 + 1]? = some (.cells #[.bool b] 4 (0, 0))
  n : W'.heap[w.heap.size + 1 + 1 + 1]? = some (.cells #[iV (k : Int)] 3 (0, 0))
  t : Touch (fun _ => False) w W'
theorem WkI.on {w : World} {B : Bk} {p : Nat} {b : Bool} {k : Nat} {W' W2 : World} {P : Nat → Prop} (h : WkI w B p b k W') (t : Touch P W' W2) (hP : ∀ i, i < w.heap.size + 4 → ¬ P i) : WkI w B p b k W2 :=
  ⟨(t.block _ (lt_of_heap h.s) (hP _ (by omega))).trans h.s, (t.block _ (lt_of_heap h.a) (hP _ (by omega))).trans h.a, (t.block _ (lt_of_heap h.r) (hP _ (by omega))).trans h.r, (t.block _ (lt_of_heap h.n) (hP _ (by omega))).trans h.n, h.t.then t fun i hi hp => absurd hp (hP i (by omega))⟩
theorem WkI.cells {w : World} {B : Bk} {p : Nat} {b : Bool} {k : Nat} {W' : World} (h : WkI w B p b k W') : W'.cell? ⟨w.heap.size, 0, none⟩ = some (sP B) ∧ W'.cell? ⟨w.heap.size + 1, 0, none⟩ = some (iV (p : Int)) ∧ W'.cell? ⟨w.heap.size + 1 + 1, 0, none⟩ = some (.bool b) ∧ W'.cell? ⟨w.heap.size + 1 + 1 + 1, 0, none⟩ = some (iV (k : Int)) ∧ W'.frozen? ⟨w.heap.size + 1 + 1, 0, none⟩ = false ∧ W'.frozen? ⟨w.heap.size + 1 + 1 + 1, 0, none⟩ = false :=
  ⟨by rw [cell_of_block h.s]; rfl, by rw [cell_of_block h.a]; rfl, by rw [cell_of_block h.r]; rfl, by rw [cell_of_block h.n]; rfl, free_of_block h.r, free_of_block h.n⟩
theorem WkI.more {w : World} {B : Bk} {p : Nat} {b : Bool} {k : Nat} {W' : World} (h : WkI w B p b k W') : WkI w B p b (k + 1) (W'.setCell ⟨w.heap.size + 1 + 1 + 1, 0, none⟩ (iV ((k : Int) + 1))) :=
  ⟨by rw [heap_setCell_other _ _ _ _ (by simp only; omega)]; exact h.s, by rw [heap_setCell_other _ _ _ _ (by simp only; omega)]; exact h.a, by rw [heap_setCell_other _ _ _ _ (by simp only; omega)]; exact h.r, by
    have := heap_setCell_same W' (w.heap.size + 1 + 1 + 1) 0 (iV ((k : Int) + 1)) h.n
    rw [this]; simp, h.t.setCell _ _ fun hh => absurd hh (by simp only; omega)⟩
theorem WkI.said {w : World} {B : Bk} {p : Nat} {b : Bool} {k : Nat} {W' : World} (h : WkI w B p b k W') (c : Bool) : WkI w B p c k (W'.setCell ⟨w.heap.size + 1 + 1, 0, none⟩ (.bool c)) :=
  ⟨by rw [heap_setCell_other _ _ _ _ (by simp only; omega)]; exact h.s, by rw [heap_setCell_other _ _ _ _ (by simp only; omega)]; exact h.a, by
    have := heap_setCell_same W' (w.heap.size + 1 + 1) 0 (.bool c) h.r
    rw [this]; simp, by rw [heap_setCell_other _ _ _ _ (by simp only; omega)]; exact h.n, h.t.setCell _ _ fun hh => absurd hh (by simp only; omega)⟩
structure WkE (w : World) (B : Bk) (p : Nat) (k : Nat) (Ω : Nat → Prop) (W' : World) : Prop where
  i : WkI w B p false k W'
  o : Ω (w.heap.size + 1 + 1 + 1)
  no : ∀ i, i < w.heap.size + 4 → Ω i → i = w.heap.size + 1 + 1 + 1
  lt : ∀ i, Ω i → i < W'.heap.size
theorem WkE.keep {w : World} {B : Bk} {p k m : Nat} {Ω : Nat → Prop} {A A2 : World} (hm : w.heap.size + 4 ≤ m) (h : WkE w B p k Ω A) (t : Touch (fun i => m ≤ i ∧ ¬ Ω i) A A2) : WkE w B p k Ω A2 :=
  ⟨h.i.on t fun i hi q => absurd q.1 (by omega), h.o, h.no, fun i hi => Nat.lt_of_lt_of_le (h.lt i hi) t.size⟩

set_option maxHeartbeats 8000000 in
theorem walks_any {w : World} {B : Bk} {S : SS} (h : SeqM w B S) (hi : Inv S) (hn : S.units.length ≤ 1000000) (p : Nat) (hp : p ≤ S.units.length) :
    Calls Try.prog 16 #[sP B, iV (p : Int)] w fun e w' => e = .returned (.bool true) ∧ Touch (fun _ => False) w w' := by
  have HBl : Hid (∀ x, B.has x → x < w.heap.size) := fun x hx => h.lt hx
  have HM : Hid (SeqM w B S) := h
  have HInv : Hid (Inv S) := hi
  have HN : Hid (S.units.length ≤ 1000000 ∧ p ≤ S.units.length) := ⟨hn, hp⟩
  have HLn : Hid (∀ W, Touch (fun _ => False) w W → Calls Try.prog 13 #[sP B] W fun e w' => e = .returned (.int .i64 (S.units.length : Int)) ∧ Touch (fun _ => False) W w') := fun W t => by
    have := len_any (h.keep0 t)
    rw [← hi.units_len] at this
    exact this
  clear h hi hn hp
  refine (callsIn_wide (n := 3)).1 ?_
  refine callsIn_of_wp_marks Try.func16 rfl trivial ?_ rfl
  simp only [Try.ntmps16, List.size_toArray, List.length_cons, List.length_nil, Nat.reduceAdd, Nat.reduceSub, Array.replicate_succ, Array.replicate_zero, List.push_toArray, List.append_toArray, List.nil_append, List.cons_append]
  gi_wp2_with fail
  refine ⟨trivial, (callsIn_wide.2 (all_any B.b _)).mono ?_⟩
  rintro e W1 ⟨rfl, hW1⟩
  rw [World.size_alloc, World.size_alloc, World.size_alloc, World.size_alloc]
  have hs1 : W1.heap.size = w.heap.size + 5 := by rw [hW1]; simp
  have HI1 : Hid (WkI w B p false 0 W1) := by
    have e0 := World.alloc_heap_new w (.cells #[sP B] 24 (0, 0))
    have e1 := World.alloc_heap_new (w.alloc (.cells #[sP B] 24 (0, 0))) (.cells #[iV (p : Int)] 3 (0, 0))
    have e2 := World.alloc_heap_new ((w.alloc (.cells #[sP B] 24 (0, 0))).alloc (.cells #[iV (p : Int)] 3 (0, 0))) (.cells #[.bool false] 4 (0, 0))
    have e3 := World.alloc_heap_new (((w.alloc (.cells #[sP B] 24 (0, 0))).alloc (.cells #[iV (p : Int)] 3 (0, 0))).alloc (.cells #[.bool false] 4 (0, 0))) (.cells #[iV 0] 3 (0, 0))
    rw [World.size_alloc] at e1
    rw [World.size_alloc, World.size_alloc] at e2
    rw [World.size_alloc, World.size_alloc, World.size_alloc] at e3
    rw [hW1]
    exact ⟨(Below.heap_alloc _ _ _ (by simp; try omega)).trans ((Below.heap_alloc _ _ _ (by simp; try omega)).trans ((Below.heap_alloc _ _ _ (by simp; try omega)).trans ((Below.heap_alloc _ _ _ (by simp)).trans e0))), (Below.heap_alloc _ _ _ (by simp; try omega)).trans ((Below.heap_alloc _ _ _ (by simp; try omega)).trans ((Below.heap_alloc _ _ _ (by simp)).trans e1)), (Below.heap_alloc _ _ _ (by simp; try omega)).trans ((Below.heap_alloc _ _ _ (by simp)).trans e2), (Below.heap_alloc _ _ _ (by simp)).trans e3, (((((Touch.refl _ w).alloc _).alloc _).alloc _).alloc _).alloc _⟩
  have a1 : W1.heap[w.heap.size + 1 + 1 + 1 + 1]? = some (.cells #[sP B] 24 (0, 0)) := by
    have e4 := World.alloc_heap_new ((((w.alloc (.cells #[sP B] 24 (0, 0))).alloc (.cells #[iV (p : Int)] 3 (0, 0))).alloc (.cells #[.bool false] 4 (0, 0))).alloc (.cells #[iV 0] 3 (0, 0))) (.cells #[sP B] 24 (0, 0))
    rw [World.size_alloc, World.size_alloc, World.size_alloc, World.size_alloc] at e4
    rw [hW1]; exact e4
  clear hW1
  gi_wp2
  have HSp := all_stops (HM.out.keep0 HI1.out.t) HInv.out (w.heap.size + 1 + 1 + 1 + 1) a1
  refine wp_range (gf := 52) (lb := #[.pointer (some ⟨w.heap.size + 1 + 1 + 1 + 1, 0, none⟩)]) rfl (enters_of Try.func52 (by kernel_rfl) rfl)
    HSp (Touch.refl _ _) ?hRw (fun _ => rfl) (fun pre Ω W' => WkE w B p pre.length Ω W' ∧ pre.length ≤ p) (fun c pre Ω W' => WkE w B p pre.length Ω W' ∧ (c = .exit 0 ∧ pre.length = p + 1)) ⟨fun _ _ _ _ h t => ⟨h.1.keep (by omega) t, h.2⟩, fun _ _ _ h => h.1.lt⟩ (fun c => ⟨fun _ _ _ _ h t => ⟨h.1.keep (by omega) t, h.2⟩, fun _ _ _ h => h.1.lt⟩) (fun k => k = w.heap.size + 1 + 1 + 1) ?hR ?h0
    (fun x a' pre Ω W' => (WkE w B p pre.length Ω W' ∧ pre.length ≤ p) ∧ ∃ X, Ω X ∧ W'.heap[X]? = some (unO x.2) ∧ a' = { tmps := #[sP B, iV (p : Int), .pointer (some ⟨w.heap.size, 0, none⟩), .pointer (some ⟨w.heap.size + 1, 0, none⟩), .pointer (some ⟨w.heap.size + 1 + 1, 0, none⟩), .pointer (some ⟨w.heap.size + 1 + 1 + 1, 0, none⟩), iV (x.1 : Int), .pointer (some ⟨X, 0, none⟩), undef, undef, sP B, .func (.func 52) #[] #[.pointer (some ⟨w.heap.size + 1 + 1 + 1 + 1, 0, none⟩)], iV (x.1 : Int), unV x.2, undef, undef, undef, undef, undef, undef, undef, undef, undef, undef, undef, undef, undef, undef, undef, undef, undef, undef, undef, undef, undef, undef, undef, undef, undef, undef], defers := [] }) ?fA ?assign ?body ?done ?stop
  case hRw =>
    rintro k (rfl | hk)
    · omega
    · have := HBl.out _ hk; omega
  case hR =>
    rintro k (rfl | hk) q
    · omega
    · have := HBl.out _ hk; omega
  case h0 => exact ⟨⟨HI1.out, rfl, fun i _ e => e, fun i e => by omega⟩, Nat.zero_le _⟩
  case fA =>
    refine fun x a' => ⟨?_, fun s Ω A q => q.1.1.lt⟩
    rintro s Ω A A2 ⟨q1, X, q2, q3, q4⟩ t
    exact ⟨⟨q1.1.keep (by omega) t, q1.2⟩, X, q2, (t.block _ (lt_of_heap q3) fun h => h.2 q2).trans q3, q4⟩
  case assign =>
    rintro q pre x Ω W' K ⟨hI, hle⟩ hK
    gi_wp2
    have hsz := lt_of_heap hI.i.n
    have t := (Touch.refl (fun _ => False) W').alloc (unO x.2)
    refine hK _ _ (fun k => Ω k ∨ k = W'.heap.size) ((Touch.refl _ W').alloc _) (fun k h => h.imp id fun e => by omega) ⟨⟨⟨hI.i.on t fun _ _ => id, .inl hI.o, fun i hi h => ?_, fun k h => ?_⟩, hle⟩, W'.heap.size, .inr rfl, World.alloc_heap_new W' _, rfl⟩
    · rcases h with h | h
      · exact hI.no i hi h
      · omega
    · rw [World.size_alloc]
      rcases h with h | h
      · have := hI.lt k h; omega
      · omega
  case body =>
    rintro q pre x a' Ω W2 hsz hRk hpre ⟨⟨hE, hle⟩, X, hX, hXb, rfl⟩
    obtain ⟨hul, rfl⟩ := numd_get S hpre
    have hat := HInv.out.at_units pre.length hul
    have HAt : Hid (Calls Try.prog 12 #[sP B, iV (pre.length : Int)] W2 fun e w' => e = .returned (.tuple #[unV S.units[pre.length], .bool true]) ∧ Touch (fun _ => False) W2 w') := by
      have := at_any2 (HM.out.keep0 hE.i.t) HInv.out (pre.length : Int) (by have := HN.out; omega)
      rw [hat] at this
      exact this
    have HE : Hid (WkE w B p pre.length Ω W2) := hE
    have HX : Hid (W2.heap[X]? = some (unO S.units[pre.length])) := hXb
    have HNX : Hid (X ≠ w.heap.size + 1 + 1 + 1) := fun e => by
      rw [e, hE.i.n] at hXb
      simp at hXb
    have hlen : pre.length ≤ 1000000 := by have := HN.out; omega
    obtain ⟨c0, c1, c2, c3, -, -⟩ := hE.i.cells
    have HLe : Hid (pre.length ≤ p ∧ p ≤ 1000000) := ⟨hle, by have := HN.out; omega⟩
    clear hE hXb hX hRk hpre hsz hat HI1 a1 HSp HM HInv hle
    generalize S.units[pre.length] = u at *
    clear hul
    obtain ⟨uc, uk, ulc, ulk, urc, urk⟩ := u
    generalize hk : pre.length = k at *
    have HK : Hid (pre.length = k) := hk
    clear hk
    gi_wp2
    refine ⟨trivial, (CallsIn.inRound q (callsIn_wide.2 HAt.out)).mono ?_⟩
    rintro e Y ⟨rfl, tY⟩
    have HY : Hid (WkE w B p k Ω (Y.alloc (unO ⟨uc, uk, ulc, ulk, urc, urk⟩)) ∧ (Y.alloc (unO ⟨uc, uk, ulc, ulk, urc, urk⟩)).heap[X]? = some (unO ⟨uc, uk, ulc, ulk, urc, urk⟩) ∧ (Y.alloc (unO ⟨uc, uk, ulc, ulk, urc, urk⟩)).heap[Y.heap.size]? = some (unO ⟨uc, uk, ulc, ulk, urc, urk⟩) ∧ Touch (fun _ => False) W2 (Y.alloc (unO ⟨uc, uk, ulc, ulk, urc, urk⟩))) :=
      ⟨HE.out.keep (m := w.heap.size + 4) (Nat.le_refl _) ((tY.alloc _).mono fun _ _ q => q.elim), heap_keep (tY.alloc _) HX.out, World.alloc_heap_new _ _, tY.alloc _⟩
    clear tY HAt HX c0 c1 c2 c3
    obtain ⟨-, -, -, d3, -, f3⟩ := HY.out.1.i.cells
    have HM3 : Hid (WkI w B p false (k + 1) ((Y.alloc (unO ⟨uc, uk, ulc, ulk, urc, urk⟩)).setCell ⟨w.heap.size + 1 + 1 + 1, 0, none⟩ (iV ((k : Int) + 1)))) := HY.out.1.i.more
    obtain ⟨-, e1, -, e3, -, -⟩ := HM3.out.cells
    rw [show ((k + 1 : Nat) : Int) = (k : Int) + 1 from by omega] at e3
    obtain ⟨q0, q1, q2, q3, q4, q5⟩ := unO_cells HY.out.2.1
    obtain ⟨r0, r1, r2, r3, r4, r5⟩ := unO_cells HY.out.2.2.1
    simp only at q0 q1 q2 q3 q4 q5 r0 r1 r2 r3 r4 r5
    have b0 : (uc == uc) = true := by simp
    have b1 : (uk == uk) = true := by simp
    have b2 : (ulc == ulc) = true := by simp
    have b3 : (ulk == ulk) = true := by simp
    have b4 : (urc == urc) = true := by simp
    have b5 : (urk == urk) = true := by simp
    have ew : IntKind.i64.wrap ((k : Int) + 1) = (k : Int) + 1 := by rw [IntKind.wrap_i64]; omega
    have HLn2 : Hid ((pre ++ [(k, (⟨uc, uk, ulc, ulk, urc, urk⟩ : Un))]).length = k + 1) := by rw [Hid, List.length_append, HK.out]; rfl
    have HTo : Hid (Touch Ω W2 ((Y.alloc (unO ⟨uc, uk, ulc, ulk, urc, urk⟩)).setCell ⟨w.heap.size + 1 + 1 + 1, 0, none⟩ (iV ((k : Int) + 1)))) := (HY.out.2.2.2.mono fun _ _ q => q.elim).setCell _ _ fun _ => HE.out.o
    have HWE : Hid (WkE w B p (k + 1) Ω ((Y.alloc (unO ⟨uc, uk, ulc, ulk, urc, urk⟩)).setCell ⟨w.heap.size + 1 + 1 + 1, 0, none⟩ (iV ((k : Int) + 1)))) := ⟨HM3.out, HE.out.o, HE.out.no, fun i hi => by rw [size_setCell]; exact HY.out.1.lt i hi⟩
    clear HM3
    by_cases hkp : k < p
    · have l1 : ¬ ((p : Int) < (k : Int) + 1) := by omega
      gi_wp2
      exact ⟨HTo.out, Ω, Swells.refl _ _, by rw [HLn2.out]; exact HWE.out, by rw [HLn2.out]; omega⟩
    · have l1 : (p : Int) < (k : Int) + 1 := by omega
      have hkp2 : k = p := by have := HLe.out; omega
      have HKP : Hid (k = p) := hkp2
      clear hkp2
      gi_wp2
      exact ⟨HTo.out, Ω, Swells.refl _ _, by rw [HLn2.out]; exact HWE.out, rfl, by rw [HLn2.out, HKP.out]⟩
  case done =>
    rintro D Ω W3 hD hnD hT hS ⟨hE, hle⟩ hK
    have hmin : min ((p : Int) + 1) (S.units.length : Int) = ((numd S S.spots).length : Int) := by
      have : (numd S S.spots).length = S.units.length := by rw [numd_len]; simp [SS.units]
      omega
    have HLt : Hid ((numd S S.spots).length ≤ 1000000) := by rw [Hid]; have := HN.out; omega
    have hp2 : p ≤ 1000000 := by have := HN.out; omega
    have HWI : Hid (WkI w B p false (numd S S.spots).length W3) := hE.i
    have HD : Hid (w.heap.size + 5 ≤ D) := by rw [Hid]; omega
    clear hE hle hT hS hnD HSp a1 HI1 HM HInv HBl hD
    generalize (numd S S.spots).length = k at *
    generalize S.units.length = ul at *
    have T0 : Hid (Touch (fun _ => False) W3 W3.drew) := (Touch.refl _ _).drew
    have HL2 : Hid (∀ W, Hid (Touch (fun _ => False) W3 W) → Calls Try.prog 13 #[sP B] W fun e w' => e = .returned (.int .i64 (ul : Int)) ∧ Hid (Touch (fun _ => False) W3 w')) := fun W t => (HLn.out W (HWI.out.t.trans t.out)).mono fun e w' h => ⟨h.1, t.out.trans h.2⟩
    have HC : Hid (∀ W, Hid (Touch (fun _ => False) W3 W) → (W.cell? ⟨w.heap.size + 1 + 1 + 1, 0, none⟩ = some (iV (k : Int)) ∧ W.cell? ⟨w.heap.size + 1, 0, none⟩ = some (iV (p : Int)) ∧ W.cell? ⟨w.heap.size, 0, none⟩ = some (sP B)) ∧ (W.cell? ⟨w.heap.size + 1 + 1, 0, none⟩ = some (.bool false) ∧ W.frozen? ⟨w.heap.size + 1 + 1, 0, none⟩ = false) ∧ ((W.setCell ⟨w.heap.size + 1 + 1, 0, none⟩ (.bool true)).cell? ⟨w.heap.size + 1 + 1 + 1, 0, none⟩ = some (iV (k : Int)) ∧ (W.setCell ⟨w.heap.size + 1 + 1, 0, none⟩ (.bool true)).cell? ⟨w.heap.size + 1, 0, none⟩ = some (iV (p : Int)) ∧ (W.setCell ⟨w.heap.size + 1 + 1, 0, none⟩ (.bool true)).cell? ⟨w.heap.size, 0, none⟩ = some (sP B))) := fun W t => by
      have h := HWI.out.on t.out fun _ _ => id
      obtain ⟨a0, a1, a2, a3, a4, -⟩ := h.cells
      obtain ⟨b0, b1, -, b3, -, -⟩ := (h.said true).cells
      exact ⟨⟨a3, a1, a0⟩, ⟨a2, a4⟩, b3, b1, b0⟩
    have S0 := (HC.out _ T0).1
    have ew : IntKind.i64.wrap ((p : Int) + 1) = (p : Int) + 1 := by rw [IntKind.wrap_i64]; omega
    gi_wp2
    refine wpIn_wide.2 ?_
    go_region_held3 (fun W' => W'.cell? ⟨w.heap.size + 1 + 1 + 1, 0, none⟩ = some (iV (k : Int)) ∧ W'.cell? ⟨w.heap.size + 1, 0, none⟩ = some (iV (p : Int)) ∧ W'.cell? ⟨w.heap.size, 0, none⟩ = some (sP B)) (first | assumption)
      (first | (go_at_call 13; ((with_reducible refine (HL2.out _ (by assumption)).mono ?_); rintro e w5 ⟨rfl, T5⟩; have S5 := (HC.out _ T5).1; have S6 := (HC.out _ T5).2.2; have r0 := (HC.out _ T5).2.1.1; have rf := (HC.out _ T5).2.1.2)))
    have hK5 := (T5.out.block D (lt_of_heap hK) id).trans hK
    have hK' : (w5.setCell ⟨w.heap.size + 1 + 1, 0, none⟩ (.bool true)).heap[D]? = some (.deferred (some [])) := by
      rw [heap_setCell_other _ _ _ _ (by have := HD.out; simp only; omega)]; exact hK5
    have HF : Hid (WkI w B p true k (w5.setCell ⟨w.heap.size + 1 + 1, 0, none⟩ (.bool true))) := (HWI.out.on T5.out fun _ _ => id).said true
    clear S0 S5 S6 HC HL2
    gi_wp2
    refine ⟨by simp, .inl ⟨_, _, rfl, run_takeDeferred hK', ?_⟩⟩
    have h9 := HF.out.on ((Touch.refl (· = D) _).putObj D (.deferred none) fun _ => rfl) fun i hi e => by have := HD.out; omega
    have hc5 := h9.cells.2.2.1
    refine ⟨.bool true, ?_, rfl, h9.t⟩
    simp [results, Try.f16, go_sem, hc5]
  case stop =>
    rintro D c pre Ω W3 hD hnD hT hS hpre ⟨hE, rfl, hle⟩ hK
    have hmin : min ((p : Int) + 1) (S.units.length : Int) = (pre.length : Int) := by
      have h1 := hpre.length_le
      have : (numd S S.spots).length = S.units.length := by rw [numd_len]; simp [SS.units]
      omega
    have hp2 : p ≤ 1000000 := by have := HN.out; omega
    have HWI : Hid (WkI w B p false pre.length W3) := hE.i
    have HD : Hid (w.heap.size + 5 ≤ D) := by rw [Hid]; omega
    clear hE hle hT hS hnD HSp a1 HI1 HM HInv HBl hD hpre
    generalize pre.length = k at *
    generalize S.units.length = ul at *
    have T0 : Hid (Touch (fun _ => False) W3 W3.drew) := (Touch.refl _ _).drew
    have HL2 : Hid (∀ W, Hid (Touch (fun _ => False) W3 W) → Calls Try.prog 13 #[sP B] W fun e w' => e = .returned (.int .i64 (ul : Int)) ∧ Hid (Touch (fun _ => False) W3 w')) := fun W t => (HLn.out W (HWI.out.t.trans t.out)).mono fun e w' h => ⟨h.1, t.out.trans h.2⟩
    have HC : Hid (∀ W, Hid (Touch (fun _ => False) W3 W) → (W.cell? ⟨w.heap.size + 1 + 1 + 1, 0, none⟩ = some (iV (k : Int)) ∧ W.cell? ⟨w.heap.size + 1, 0, none⟩ = some (iV (p : Int)) ∧ W.cell? ⟨w.heap.size, 0, none⟩ = some (sP B)) ∧ (W.cell? ⟨w.heap.size + 1 + 1, 0, none⟩ = some (.bool false) ∧ W.frozen? ⟨w.heap.size + 1 + 1, 0, none⟩ = false) ∧ ((W.setCell ⟨w.heap.size + 1 + 1, 0, none⟩ (.bool true)).cell? ⟨w.heap.size + 1 + 1 + 1, 0, none⟩ = some (iV (k : Int)) ∧ (W.setCell ⟨w.heap.size + 1 + 1, 0, none⟩ (.bool true)).cell? ⟨w.heap.size + 1, 0, none⟩ = some (iV (p : Int)) ∧ (W.setCell ⟨w.heap.size + 1 + 1, 0, none⟩ (.bool true)).cell? ⟨w.heap.size, 0, none⟩ = some (sP B))) := fun W t => by
      have h := HWI.out.on t.out fun _ _ => id
      obtain ⟨a0, a1, a2, a3, a4, -⟩ := h.cells
      obtain ⟨b0, b1, -, b3, -, -⟩ := (h.said true).cells
      exact ⟨⟨a3, a1, a0⟩, ⟨a2, a4⟩, b3, b1, b0⟩
    have S0 := (HC.out _ T0).1
    have ew : IntKind.i64.wrap ((p : Int) + 1) = (p : Int) + 1 := by rw [IntKind.wrap_i64]; omega
    gi_wp2
    refine wpIn_wide.2 ?_
    go_region_held3 (fun W' => W'.cell? ⟨w.heap.size + 1 + 1 + 1, 0, none⟩ = some (iV (k : Int)) ∧ W'.cell? ⟨w.heap.size + 1, 0, none⟩ = some (iV (p : Int)) ∧ W'.cell? ⟨w.heap.size, 0, none⟩ = some (sP B)) (first | assumption)
      (first | (go_at_call 13; ((with_reducible refine (HL2.out _ (by assumption)).mono ?_); rintro e w5 ⟨rfl, T5⟩; have S5 := (HC.out _ T5).1; have S6 := (HC.out _ T5).2.2; have r0 := (HC.out _ T5).2.1.1; have rf := (HC.out _ T5).2.1.2)))
    have hK5 := (T5.out.block D (lt_of_heap hK) id).trans hK
    have hK' : (w5.setCell ⟨w.heap.size + 1 + 1, 0, none⟩ (.bool true)).heap[D]? = some (.deferred (some [])) := by
      rw [heap_setCell_other _ _ _ _ (by have := HD.out; simp only; omega)]; exact hK5
    have HF : Hid (WkI w B p true k (w5.setCell ⟨w.heap.size + 1 + 1, 0, none⟩ (.bool true))) := (HWI.out.on T5.out fun _ _ => id).said true
    clear S0 S5 S6 HC HL2
    gi_wp2
    refine ⟨by simp, .inl ⟨_, _, rfl, run_takeDeferred hK', ?_⟩⟩
    have h9 := HF.out.on ((Touch.refl (· = D) _).putObj D (.deferred none) fun _ => rfl) fun i hi e => by have := HD.out; omega
    have hc5 := h9.cells.2.2.1
    refine ⟨.bool true, ?_, rfl, h9.t⟩
    simp [results, Try.f16, go_sem, hc5]
end Go.Proofs.Ytnbphdmpbjahhab

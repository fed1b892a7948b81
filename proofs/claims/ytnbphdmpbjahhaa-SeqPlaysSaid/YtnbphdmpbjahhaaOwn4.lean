/- quirelaw9.same: has a sequence just the document's order? -/
import Derived.Test.YtnbphdmpbjahhaaOwn2
import Derived.Test.YtnbphdmpbjahhaaPart20
import Derived.Test.YtnbphdmpbjahhaaOwn3
import Derived.Test.YtnbphdmpbjahhaaPart29
import Derived.Deep.RegionHeld3
import Derived.Deep.DeepCutAuto
import Derived.Test.YtnbphdmpbjahhaaPlT
namespace Go.Proofs.Ytnbphdmpbjahhaa
open Go.RowKit Go.Shelf
set_option linter.unusedVariables false
set_option linter.unusedSimpArgs false
set_option maxRecDepth 100000
attribute [local go_sem] Oper.semAt_some

theorem numd_get (S : SS) {pre : List (Nat × Un)} {x : Nat × Un} (h : pre ++ [x] <+: numd S S.spots) : ∃ hl : pre.length < S.units.length, x = (pre.length, S.units[pre.length]) := by
  obtain ⟨hl, -, hx⟩ := pre_snoc h
  rw [numd_len] at hl
  have hu : pre.length < S.units.length := by simpa [SS.units] using hl
  refine ⟨hu, ?_⟩
  rw [hx, units_get S _ hu hl]
  simp [numd]
/-- A sequence that has the document's order. -/
structure SameR (S : SS) (r : RS) : Prop where
  inv : Inv S
  lt : ∀ x ∈ r.order, x < r.l.length
  len : r.order.length = S.units.length
  at_ : ∀ i (h : i < S.units.length), r.at_ (i : Int) = (S.units[i], true)
theorem Corr.sameR {S : SS} {r : RS} {sp : Nat → Sp} (h : Corr S r sp) : SameR S r := by
  have hu := h.units
  refine ⟨h.inv, h.ok.inv.lt, by rw [hu]; simp, fun i hi => ?_⟩
  have hi' : i < r.order.length := by rw [hu] at hi; simpa using hi
  unfold RS.at_
  rw [if_neg (by omega)]
  simp only [hu, List.getElem_map]
  congr 1
  congr 1
  congr 1
  simp [List.getD, hi']
/-- What lies in same's boxes when so many have come. -/
structure WsI (w : World) (B : Bk) (b N0 : Nat) (bo : Bool) (k : Nat) (W' : World) : Prop where
  s : W'.heap[w.heap.size]? = some (.cells #[sP B] 24 (0, 0))
  q : W'.heap[w.heap.size + 1]? = some (.cells #[qP b] 26 (0, 0))
  r : W'.heap[w.heap.size + 1 + 1]? = some (.cells #[.bool bo] 4 (0, 0))
  n : W'.heap[N0]? = some (.cells #[iV (k : Int)] 3 (0, 0))
  t : Touch (fun _ => False) w W'
  g : w.heap.size + 3 ≤ N0
theorem WsI.on {w : World} {B : Bk} {b N0 : Nat} {bo : Bool} {k : Nat} {W' W2 : World} {P : Nat → Prop} (h : WsI w B b N0 bo k W') (t : Touch P W' W2) (hP : ∀ i, i ≤ N0 → ¬ P i) : WsI w B b N0 bo k W2 := by
  have := h.g
  exact ⟨(t.block _ (lt_of_heap h.s) (hP _ (by omega))).trans h.s, (t.block _ (lt_of_heap h.q) (hP _ (by omega))).trans h.q, (t.block _ (lt_of_heap h.r) (hP _ (by omega))).trans h.r, (t.block _ (lt_of_heap h.n) (hP _ (by omega))).trans h.n, h.t.then t fun i hi hp => absurd hp (hP i (by omega)), h.g⟩
theorem WsI.cells {w : World} {B : Bk} {b N0 : Nat} {bo : Bool} {k : Nat} {W' : World} (h : WsI w B b N0 bo k W') : W'.cell? ⟨w.heap.size, 0, none⟩ = some (sP B) ∧ W'.cell? ⟨w.heap.size + 1, 0, none⟩ = some (qP b) ∧ W'.cell? ⟨w.heap.size + 1 + 1, 0, none⟩ = some (.bool bo) ∧ W'.cell? ⟨N0, 0, none⟩ = some (iV (k : Int)) ∧ W'.frozen? ⟨w.heap.size + 1 + 1, 0, none⟩ = false ∧ W'.frozen? ⟨N0, 0, none⟩ = false :=
  ⟨by rw [cell_of_block h.s]; rfl, by rw [cell_of_block h.q]; rfl, by rw [cell_of_block h.r]; rfl, by rw [cell_of_block h.n]; rfl, free_of_block h.r, free_of_block h.n⟩
theorem WsI.more {w : World} {B : Bk} {b N0 : Nat} {bo : Bool} {k : Nat} {W' : World} (h : WsI w B b N0 bo k W') : WsI w B b N0 bo (k + 1) (W'.setCell ⟨N0, 0, none⟩ (iV ((k : Int) + 1))) := by
  have hg := h.g
  exact ⟨by rw [heap_setCell_other _ _ _ _ (by simp only; omega)]; exact h.s, by rw [heap_setCell_other _ _ _ _ (by simp only; omega)]; exact h.q, by rw [heap_setCell_other _ _ _ _ (by simp only; omega)]; exact h.r, by
    have := heap_setCell_same W' N0 0 (iV ((k : Int) + 1)) h.n
    rw [this]; simp, h.t.setCell _ _ fun hh => absurd hh (by simp only; omega), h.g⟩
theorem WsI.said {w : World} {B : Bk} {b N0 : Nat} {bo : Bool} {k : Nat} {W' : World} (h : WsI w B b N0 bo k W') (c : Bool) : WsI w B b N0 c k (W'.setCell ⟨w.heap.size + 1 + 1, 0, none⟩ (.bool c)) := by
  have hg := h.g
  exact ⟨by rw [heap_setCell_other _ _ _ _ (by simp only; omega)]; exact h.s, by rw [heap_setCell_other _ _ _ _ (by simp only; omega)]; exact h.q, by
    have := heap_setCell_same W' (w.heap.size + 1 + 1) 0 (.bool c) h.r
    rw [this]; simp, by rw [heap_setCell_other _ _ _ _ (by simp only; omega)]; exact h.n, h.t.setCell _ _ fun hh => absurd hh (by simp only; omega), h.g⟩
structure WsE (w : World) (B : Bk) (b N0 : Nat) (k : Nat) (Ω : Nat → Prop) (W' : World) : Prop where
  i : WsI w B b N0 false k W'
  o : Ω N0
  no : ∀ i, i ≤ N0 → Ω i → i = N0
  lt : ∀ i, Ω i → i < W'.heap.size
theorem WsE.keep {w : World} {B : Bk} {b N0 k m : Nat} {Ω : Nat → Prop} {A A2 : World} (hm : N0 + 1 ≤ m) (h : WsE w B b N0 k Ω A) (t : Touch (fun i => m ≤ i ∧ ¬ Ω i) A A2) : WsE w B b N0 k Ω A2 :=
  ⟨h.i.on t fun i hi q => absurd q.1 (by omega), h.o, h.no, fun i hi => Nat.lt_of_lt_of_le (h.lt i hi) t.size⟩

set_option maxHeartbeats 8000000 in
theorem same_any {w : World} {B : Bk} {S : SS} {b : Nat} {r : RS} (h : SeqM w B S) (hq : RqAt w b r) (hs : SameR S r) (hn : S.units.length ≤ 1000000) :
    Calls Try.prog 17 #[sP B, qP b] w fun e w' => e = .returned (.bool true) ∧ Touch (fun _ => False) w w' := by
  have HBl : Hid (∀ x, B.has x → x < w.heap.size) := fun x hx => h.lt hx
  have HM : Hid (SeqM w B S) := h
  have HQ : Hid (RqAt w b r) := hq
  have HLe : Hid (r.order.length = S.units.length) := hs.len
  have HInv : Hid (Inv S) := hs.inv
  have HN : Hid (S.units.length ≤ 1000000) := hn
  have HLn : Hid (∀ W, Hid (Touch (fun _ => False) w W) → Calls Try.prog 20 #[sP B] W fun e w' => e = .returned (.int .i64 (S.units.length : Int)) ∧ Hid (Touch (fun _ => False) w w')) := fun W t => by
    have := len_any (h.keep0 t.out)
    rw [← hs.inv.units_len] at this
    exact this.mono fun e w' q => ⟨q.1, t.out.trans q.2⟩
  have HLq : Hid (∀ W, Hid (Touch (fun _ => False) w W) → Calls Try.prog 42 #[qP b] W fun e w' => e = .returned (.int .i64 (S.units.length : Int)) ∧ Hid (Touch (fun _ => False) w w')) := fun W t => by
    have := qlen_any (hq.keep t.out)
    rw [hs.len] at this
    exact this.mono fun e w' q => ⟨q.1, t.out.trans (by rw [q.2]; exact Touch.refl _ _)⟩
  have HAq : Hid (∀ W i (hi : i < S.units.length), Touch (fun _ => False) w W → Calls Try.prog 44 #[qP b, iV (i : Int)] W fun e w' => e = .returned (.tuple #[unV S.units[i], .bool true]) ∧ Touch (fun _ => False) W w') := fun W i hi t => by
    have := qat_any (hq.keep t) hs.lt (i : Int)
    rw [hs.at_ i hi] at this
    exact this
  have HFi : Hid (∀ W i (hi : i < S.units.length), Touch (fun _ => False) w W → Calls Try.prog 19 #[sP B, .agg #[.int .u64 S.units[i].c, .int .u64 S.units[i].k]] W fun e w' => e = .returned (.int .i64 (i : Int)) ∧ Touch (fun _ => False) W w') := fun W i hi t => by
    have h1 := hs.inv.units_ok (List.getElem_mem hi)
    have := find_any (h.keep0 t) hs.inv S.units[i].c S.units[i].k (by omega) (by omega) (by omega)
    rw [hs.inv.find_units i hi] at this
    exact this
  have HAn : Hid (∀ W (i : Int), (i < 0 ∨ (S.units.length : Int) ≤ i) → -4611686018427387904 ≤ i ∧ i ≤ 4611686018427387904 → Touch (fun _ => False) w W → Calls Try.prog 21 #[sP B, iV i] W fun e w' => e = .returned (.tuple #[unV .zero, .bool false]) ∧ Touch (fun _ => False) W w') := fun W i hi hb t => by
    have := at_any2 (h.keep0 t) hs.inv i hb
    rw [hs.inv.at_none i hi] at this
    exact this
  clear h hq hs hn
  obtain ⟨E, hE⟩ : ∃ E, Hid (E = ((w.alloc (.cells #[sP B] 24 (0, 0))).alloc (.cells #[qP b] 26 (0, 0))).alloc (.cells #[.bool false] 4 (0, 0))) := ⟨_, Eq.refl _⟩
  have HE : Hid (E.heap[w.heap.size]? = some (.cells #[sP B] 24 (0, 0)) ∧ E.heap[w.heap.size + 1]? = some (.cells #[qP b] 26 (0, 0)) ∧ E.heap[w.heap.size + 1 + 1]? = some (.cells #[.bool false] 4 (0, 0)) ∧ E.heap.size = w.heap.size + 3 ∧ Touch (fun _ => False) w E) := by
    have e0 := World.alloc_heap_new w (.cells #[sP B] 24 (0, 0))
    have e1 := World.alloc_heap_new (w.alloc (.cells #[sP B] 24 (0, 0))) (.cells #[qP b] 26 (0, 0))
    have e2 := World.alloc_heap_new ((w.alloc (.cells #[sP B] 24 (0, 0))).alloc (.cells #[qP b] 26 (0, 0))) (.cells #[.bool false] 4 (0, 0))
    rw [World.size_alloc] at e1
    rw [World.size_alloc, World.size_alloc] at e2
    rw [hE.out]
    exact ⟨(Below.heap_alloc _ _ _ (by simp; try omega)).trans ((Below.heap_alloc _ _ _ (by simp)).trans e0), (Below.heap_alloc _ _ _ (by simp)).trans e1, e2, by simp, (((Touch.refl _ w).alloc _).alloc _).alloc _⟩
  have HCE : Hid (∀ W, Hid (Touch (fun _ => False) E W) → W.cell? ⟨w.heap.size, 0, none⟩ = some (sP B) ∧ W.cell? ⟨w.heap.size + 1, 0, none⟩ = some (qP b)) := fun W t => ⟨by rw [cell_of_block (heap_keep t.out HE.out.1)]; rfl, by rw [cell_of_block (heap_keep t.out HE.out.2.1)]; rfl⟩
  have HLn1 : Hid (∀ W, Hid (Touch (fun _ => False) E W) → Calls Try.prog 20 #[sP B] W fun e w' => e = .returned (.int .i64 (S.units.length : Int)) ∧ Hid (Touch (fun _ => False) E w')) := fun W t => by
    have := len_any (HM.out.keep0 (HE.out.2.2.2.2.trans t.out))
    rw [← HInv.out.units_len] at this
    exact this.mono fun e w' q => ⟨q.1, t.out.trans q.2⟩
  have HLq1 : Hid (∀ W, Hid (Touch (fun _ => False) E W) → Calls Try.prog 42 #[qP b] W fun e w' => e = .returned (.int .i64 (S.units.length : Int)) ∧ Hid (Touch (fun _ => False) E w')) := fun W t => by
    have := qlen_any (HQ.out.keep (HE.out.2.2.2.2.trans t.out))
    rw [HLe.out] at this
    exact this.mono fun e w' q => ⟨q.1, t.out.trans (by rw [q.2]; exact Touch.refl _ _)⟩
  have T0 : Hid (Touch (fun _ => False) E E.drew) := (Touch.refl _ _).drew
  have S0 := HCE.out _ T0
  obtain ⟨ul, hul⟩ : ∃ n : Nat, Hid (n = S.units.length) := ⟨_, Eq.refl _⟩
  rw [← hul.out] at HLn HLq HLn1 HLq1
  have b00 : ((ul : Int) == (ul : Int)) = true := by simp
  refine (callsIn_wide (n := 3)).1 ?_
  refine callsIn_of_wp_marks Try.func17 rfl trivial ?_ rfl
  simp only [Try.ntmps17, List.size_toArray, List.length_cons, List.length_nil, Nat.reduceAdd, Nat.reduceSub, Array.replicate_succ, Array.replicate_zero, List.push_toArray, List.append_toArray, List.nil_append, List.cons_append]
  gi_wp2_with fail
  rw [← hE.out]
  refine wpIn_wide.2 ?_
  go_region_held3 (fun W' => W'.cell? ⟨w.heap.size, 0, none⟩ = some (sP B) ∧ W'.cell? ⟨w.heap.size + 1, 0, none⟩ = some (qP b)) (first | assumption)
    (first | (go_at_call 20; ((with_reducible refine (HLn1.out _ (by assumption)).mono ?_); rintro e w5 ⟨rfl, T5⟩; have S5 := HCE.out _ T5)) | (go_at_call 42; ((with_reducible refine (HLq1.out _ (by assumption)).mono ?_); rintro e w6 ⟨rfl, T6⟩; have S6 := HCE.out _ T6)))
  have HW6 : Hid (WsI w B b w6.heap.size false 0 (w6.alloc (.cells #[iV 0] 3 (0, 0)))) := by
    have t := T6.out.alloc (.cells #[iV 0] 3 (0, 0))
    exact ⟨heap_keep t HE.out.1, heap_keep t HE.out.2.1, heap_keep t HE.out.2.2.1, World.alloc_heap_new _ _, HE.out.2.2.2.2.trans t, by have := T6.out.size; have := HE.out.2.2.2.1; omega⟩
  have cS : (w6.alloc (.cells #[iV 0] 3 (0, 0))).cell? ⟨w.heap.size, 0, none⟩ = some (sP B) := HW6.out.cells.1
  clear S0 S5 S6 T0 T5 HCE HLn1 HLq1 hE
  gi_wp2
  refine ⟨trivial, (callsIn_wide.2 (all_any B.b _)).mono ?_⟩
  rintro e W1 ⟨rfl, hW1⟩
  rw [World.size_alloc]
  have hs1 : W1.heap.size = w6.heap.size + 2 := by rw [hW1]; simp
  have HI1 : Hid (WsI w B b w6.heap.size false 0 W1) := by
    have := HW6.out.on (P := fun _ => False) ((Touch.refl _ _).alloc (.cells #[sP B] 24 (0, 0))) fun _ _ => id
    rw [← hW1] at this
    exact this
  have a1 : W1.heap[w6.heap.size + 1]? = some (.cells #[sP B] 24 (0, 0)) := by
    have e4 := World.alloc_heap_new (w6.alloc (.cells #[iV 0] 3 (0, 0))) (.cells #[sP B] 24 (0, 0))
    rw [World.size_alloc] at e4
    rw [hW1]; exact e4
  have HN0 : Hid (w.heap.size + 3 ≤ w6.heap.size) := HW6.out.g
  clear hW1 HW6 cS T6 HE
  generalize w6.heap.size = N0 at *
  gi_wp2
  have HSp := all_stops (HM.out.keep0 HI1.out.t) HInv.out (N0 + 1) a1
  refine wp_range (gf := 65) (lb := #[.pointer (some ⟨N0 + 1, 0, none⟩)]) rfl (enters_of Try.func65 (by kernel_rfl) rfl)
    HSp (Touch.refl _ _) ?hRw (fun _ => rfl) (fun pre Ω W' => WsE w B b N0 pre.length Ω W') (fun c pre Ω W' => False ∧ ∀ k, Ω k → k < W'.heap.size) ⟨fun _ _ _ _ h t => h.keep (by omega) t, fun _ _ _ h => h.lt⟩ (fun c => ⟨fun _ _ _ _ h t => h.1.elim, fun _ _ _ h => h.2⟩) (fun k => k = N0) ?hR ?h0
    (fun x a' pre Ω W' => WsE w B b N0 pre.length Ω W' ∧ ∃ X, Ω X ∧ W'.heap[X]? = some (unO x.2) ∧ a' = { tmps := #[sP B, qP b, .pointer (some ⟨w.heap.size, 0, none⟩), .pointer (some ⟨w.heap.size + 1, 0, none⟩), .pointer (some ⟨w.heap.size + 1 + 1, 0, none⟩), .pointer (some ⟨N0, 0, none⟩), iV (x.1 : Int), .pointer (some ⟨X, 0, none⟩), undef, undef, undef, undef, undef, undef, sP B, .int .i64 (ul : Int), qP b, .int .i64 (ul : Int), .bool false, sP B, .func (.func 65) #[] #[.pointer (some ⟨N0 + 1, 0, none⟩)], iV (x.1 : Int), unV x.2, undef, undef, undef, undef, undef, undef, undef, undef, undef, undef, undef, undef, undef, undef, undef, undef, undef, undef, undef, undef, undef, undef, undef, undef, undef, undef, undef, undef, undef, undef, undef, undef, undef, undef, undef, undef, undef, undef, undef, undef, undef, undef, undef, undef, undef, undef, undef], defers := [] }) ?fA ?assign ?body ?done ?stop
  case hRw =>
    rintro k (rfl | hk)
    · omega
    · have := HBl.out _ hk; have := HN0.out; omega
  case hR =>
    rintro k (rfl | hk) q
    · omega
    · have := HBl.out _ hk; have := HN0.out; omega
  case h0 => exact ⟨HI1.out, rfl, fun i _ e => e, fun i e => by omega⟩
  case fA =>
    refine fun x a' => ⟨?_, fun s Ω A q => q.1.lt⟩
    rintro s Ω A A2 ⟨q1, X, q2, q3, q4⟩ t
    exact ⟨q1.keep (by omega) t, X, q2, (t.block _ (lt_of_heap q3) fun h => h.2 q2).trans q3, q4⟩
  case assign =>
    rintro q pre x Ω W' K hI hK
    gi_wp2
    have hsz := lt_of_heap hI.i.n
    have t := (Touch.refl (fun _ => False) W').alloc (unO x.2)
    refine hK _ _ (fun k => Ω k ∨ k = W'.heap.size) ((Touch.refl _ W').alloc _) (fun k h => h.imp id fun e => by omega) ⟨⟨hI.i.on t fun _ _ => id, .inl hI.o, fun i hi h => ?_, fun k h => ?_⟩, W'.heap.size, .inr rfl, World.alloc_heap_new W' _, rfl⟩
    · rcases h with h | h
      · exact hI.no i hi h
      · omega
    · rw [World.size_alloc]
      rcases h with h | h
      · have := hI.lt k h; omega
      · omega
  case body =>
    rintro q pre x a' Ω W2 hsz hRk hpre ⟨hE, X, hX, hXb, rfl⟩
    obtain ⟨hul, rfl⟩ := numd_get S hpre
    have HAt : Hid (Calls Try.prog 44 #[qP b, iV (pre.length : Int)] W2 fun e w' => e = .returned (.tuple #[unV S.units[pre.length], .bool true]) ∧ Touch (fun _ => False) W2 w') := HAq.out W2 pre.length hul hE.i.t
    have HFd : Hid (∀ W, Touch (fun _ => False) W2 W → Calls Try.prog 19 #[sP B, .agg #[.int .u64 S.units[pre.length].c, .int .u64 S.units[pre.length].k]] W fun e w' => e = .returned (.int .i64 (pre.length : Int)) ∧ Touch (fun _ => False) W w') := fun W t => HFi.out W pre.length hul (hE.i.t.trans t)
    have HEo : Hid (WsE w B b N0 pre.length Ω W2) := hE
    have HX : Hid (W2.heap[X]? = some (unO S.units[pre.length])) := hXb
    have hlen : pre.length ≤ 1000000 := by have := HN.out; omega
    obtain ⟨c0, c1, c2, c3, -, -⟩ := hE.i.cells
    clear hE hXb hX hRk hpre hsz HI1 a1 HSp HM HInv HAq HFi HAn HLn HLq
    generalize S.units[pre.length] = u at *
    clear hul
    obtain ⟨uc, uk, ulc, ulk, urc, urk⟩ := u
    simp only at HFd
    generalize hk : pre.length = k at *
    have HK : Hid (pre.length = k) := hk
    clear hk
    gi_wp2
    refine ⟨trivial, (CallsIn.inRound q (callsIn_wide.2 HAt.out)).mono ?_⟩
    rintro e Y ⟨rfl, tY⟩
    have HY : Hid (WsE w B b N0 k Ω (Y.alloc (unO ⟨uc, uk, ulc, ulk, urc, urk⟩)) ∧ (Y.alloc (unO ⟨uc, uk, ulc, ulk, urc, urk⟩)).heap[X]? = some (unO ⟨uc, uk, ulc, ulk, urc, urk⟩) ∧ (Y.alloc (unO ⟨uc, uk, ulc, ulk, urc, urk⟩)).heap[Y.heap.size]? = some (unO ⟨uc, uk, ulc, ulk, urc, urk⟩) ∧ Touch (fun _ => False) W2 (Y.alloc (unO ⟨uc, uk, ulc, ulk, urc, urk⟩))) :=
      ⟨HEo.out.keep (m := N0 + 1) (Nat.le_refl _) ((tY.alloc _).mono fun _ _ q => q.elim), heap_keep (tY.alloc _) HX.out, World.alloc_heap_new _ _, tY.alloc _⟩
    clear tY HAt HX c0 c1 c2 c3
    obtain ⟨d0, -, -, d3, -, -⟩ := HY.out.1.i.cells
    obtain ⟨q0, q1, q2, q3, q4, q5⟩ := unO_cells HY.out.2.1
    obtain ⟨r0, r1, r2, r3, r4, r5⟩ := unO_cells HY.out.2.2.1
    simp only at q0 q1 q2 q3 q4 q5 r0 r1 r2 r3 r4 r5
    have b0 : (uc == uc) = true := by simp
    have b1 : (uk == uk) = true := by simp
    have b2 : (ulc == ulc) = true := by simp
    have b3 : (ulk == ulk) = true := by simp
    have b4 : (urc == urc) = true := by simp
    have b5 : (urk == urk) = true := by simp
    have ew : IntKind.i64.wrap ((k : Int) + 1) = (k : Int) + 1 := by rw [IntKind.wrap_i64]; omega
    have HFd2 := HFd.out _ HY.out.2.2.2
    have HLn2 : Hid ((pre ++ [(k, (⟨uc, uk, ulc, ulk, urc, urk⟩ : Un))]).length = k + 1) := by rw [Hid, List.length_append, HK.out]; rfl
    gi_wp2
    refine ⟨trivial, (CallsIn.inRound q (callsIn_wide.2 HFd2)).mono ?_⟩
    rintro e Z ⟨rfl, tZ⟩
    have HZ : Hid (WsE w B b N0 k Ω Z) := HY.out.1.keep (m := N0 + 1) (Nat.le_refl _) (tZ.mono fun _ _ q => q.elim)
    have HTo : Hid (Touch Ω W2 (Z.setCell ⟨N0, 0, none⟩ (iV ((k : Int) + 1)))) := ((HY.out.2.2.2.trans tZ).mono fun _ _ q => q.elim).setCell _ _ fun _ => HEo.out.o
    have HWE : Hid (WsE w B b N0 (k + 1) Ω (Z.setCell ⟨N0, 0, none⟩ (iV ((k : Int) + 1)))) := ⟨HZ.out.i.more, HEo.out.o, HEo.out.no, fun i hi => by rw [size_setCell]; exact HZ.out.lt i hi⟩
    obtain ⟨-, -, -, g3, -, f3⟩ := HZ.out.i.cells
    clear tZ HFd2 HFd HY HZ d0 d3 q0 q1 q2 q3 q4 q5 r0 r1 r2 r3 r4 r5
    gi_wp2
    exact ⟨HTo.out, Ω, Swells.refl _ _, by show WsE w B b N0 (List.length _) Ω _; rw [HLn2.out]; exact HWE.out⟩
  case done =>
    rintro D Ω W3 hD hnD hT hS hE hK
    have hnl : (numd S S.spots).length = S.units.length := by rw [numd_len]; simp [SS.units]
    have HWI : Hid (WsI w B b N0 false ul W3) := by
      have := hE.i
      rw [hnl, ← hul.out] at this
      exact this
    have HD : Hid (N0 + 2 ≤ D) := by rw [Hid]; omega
    have hulb : ul ≤ 1000000 := by have := HN.out; have := hul.out; omega
    have HA1 : Hid (∀ W, Touch (fun _ => False) W3 W → Calls Try.prog 21 #[sP B, iV (ul : Int)] W fun e w' => e = .returned (.tuple #[unV .zero, .bool false]) ∧ Touch (fun _ => False) W w') := fun W t => HAn.out W (ul : Int) (.inr (by have := hul.out; omega)) (by omega) (HWI.out.t.trans t)
    have HA2 : Hid (∀ W, Touch (fun _ => False) W3 W → Calls Try.prog 21 #[sP B, iV (-1)] W fun e w' => e = .returned (.tuple #[unV .zero, .bool false]) ∧ Touch (fun _ => False) W w') := fun W t => HAn.out W (-1) (.inl (by omega)) (by omega) (HWI.out.t.trans t)
    have HLq2 : Hid (∀ W, Hid (Touch (fun _ => False) W3 W) → Calls Try.prog 42 #[qP b] W fun e w' => e = .returned (.int .i64 (ul : Int)) ∧ Hid (Touch (fun _ => False) W3 w')) := fun W t => by
      have := qlen_any (HQ.out.keep (HWI.out.t.trans t.out))
      rw [HLe.out, ← hul.out] at this
      exact this.mono fun e w' q => ⟨q.1, t.out.trans (by rw [q.2]; exact Touch.refl _ _)⟩
    obtain ⟨c0, -, -, c3, -, -⟩ := HWI.out.cells
    clear hE hT hS hnD HSp a1 HI1 HM HInv HBl hD HAq HFi HAn HLn HLq hnl HQ HLe HN hul
    gi_wp2
    refine ⟨trivial, (callsIn_wide.2 (HA1.out _ (Touch.refl _ _))).mono ?_⟩
    rintro e Y1 ⟨rfl, t1⟩
    have HY1 : Hid (Touch (fun _ => False) W3 (Y1.alloc (unO .zero))) := t1.alloc _
    obtain ⟨d0, -, -, -, -, -⟩ := (HWI.out.on (P := fun _ => False) HY1.out fun _ _ => id).cells
    clear t1 c0 c3 HA1
    gi_wp2
    refine ⟨trivial, (callsIn_wide.2 (HA2.out _ HY1.out)).mono ?_⟩
    rintro e Y2 ⟨rfl, t2⟩
    have HY2 : Hid (Touch (fun _ => False) W3 (Y2.alloc (unO .zero))) := HY1.out.trans (t2.alloc _)
    clear t2 d0 HA2 HY1
    have T0 : Hid (Touch (fun _ => False) W3 (Y2.alloc (unO .zero)).drew) := HY2.out.drew
    have HC : Hid (∀ W, Hid (Touch (fun _ => False) W3 W) → (W.cell? ⟨N0, 0, none⟩ = some (iV (ul : Int)) ∧ W.cell? ⟨w.heap.size + 1, 0, none⟩ = some (qP b)) ∧ (W.cell? ⟨w.heap.size + 1 + 1, 0, none⟩ = some (.bool false) ∧ W.frozen? ⟨w.heap.size + 1 + 1, 0, none⟩ = false) ∧ ((W.setCell ⟨w.heap.size + 1 + 1, 0, none⟩ (.bool true)).cell? ⟨N0, 0, none⟩ = some (iV (ul : Int)) ∧ (W.setCell ⟨w.heap.size + 1 + 1, 0, none⟩ (.bool true)).cell? ⟨w.heap.size + 1, 0, none⟩ = some (qP b))) := fun W t => by
      have h := HWI.out.on t.out fun _ _ => id
      obtain ⟨a0, a1, a2, a3, a4, -⟩ := h.cells
      obtain ⟨b0, b1, -, b3, -, -⟩ := (h.said true).cells
      exact ⟨⟨a3, a1⟩, ⟨a2, a4⟩, b3, b1⟩
    have S0 := (HC.out _ T0).1
    gi_wp2
    refine wpIn_wide.2 ?_
    go_region_held3 (fun W' => W'.cell? ⟨N0, 0, none⟩ = some (iV (ul : Int)) ∧ W'.cell? ⟨w.heap.size + 1, 0, none⟩ = some (qP b)) (first | assumption)
      (first | (go_at_call 42; ((with_reducible refine (HLq2.out _ (by assumption)).mono ?_); rintro e w5 ⟨rfl, T5⟩; have S5 := (HC.out _ T5).1; have S6 := (HC.out _ T5).2.2; have r0 := (HC.out _ T5).2.1.1; have rf := (HC.out _ T5).2.1.2)))
    have hK5 := (T5.out.block D (lt_of_heap hK) id).trans hK
    have hK' : (w5.setCell ⟨w.heap.size + 1 + 1, 0, none⟩ (.bool true)).heap[D]? = some (.deferred (some [])) := by
      rw [heap_setCell_other _ _ _ _ (by have := HD.out; have := HWI.out.g; simp only; omega)]; exact hK5
    have HF : Hid (WsI w B b N0 true ul (w5.setCell ⟨w.heap.size + 1 + 1, 0, none⟩ (.bool true))) := (HWI.out.on T5.out fun _ _ => id).said true
    clear S0 S5 S6 HC HLq2
    gi_wp2
    refine ⟨by simp, .inl ⟨_, _, rfl, run_takeDeferred hK', ?_⟩⟩
    have h9 := HF.out.on ((Touch.refl (· = D) _).putObj D (.deferred none) fun _ => rfl) fun i hi e => by have := HD.out; omega
    have hc5 := h9.cells.2.2.1
    refine ⟨.bool true, ?_, rfl, h9.t⟩
    simp [results, Try.f17, go_sem, hc5]
  case stop =>
    rintro D c pre Ω W3 hD hnD hT hS hpre ⟨h, _⟩ hK
    exact h.elim
end Go.Proofs.Ytnbphdmpbjahhaa

/- quirelaw9: a sequence and the document's tree side by side, step by step. -/
namespace Go.Proofs.Ytnbphdmpbjahhaa
open Go.RowKit
set_option linter.unusedVariables false
set_option linter.unusedSimpArgs false
set_option maxRecDepth 100000

/-- What is touched are blocks of a sequence alone. -/
def OnlyS (w : World) (P : Nat → Prop) : Prop := ∀ k c ty fr, w.heap[k]? = some (.cells c ty fr) → P k → ty ≠ 3 ∧ ty ≠ 30 ∧ ty ≠ 84 ∧ ty ≠ 37
theorem SeqM.onlyS {w : World} {B : Bk} {S : SS} (h : SeqM w B S) : OnlyS w B.has := fun k c ty fr hk hb => by
  rcases hb with rfl | rfl | rfl | rfl | rfl
  · obtain ⟨c, hc⟩ := h.blk
    rw [hc] at hk; simp at hk; rw [← hk.2.1]; decide
  · obtain ⟨c, hc, _⟩ := h.runs.row
    rw [hc] at hk; simp at hk; rw [← hk.2.1]; decide
  · obtain ⟨c, hc, _⟩ := h.pcs.row
    rw [hc] at hk; simp at hk; rw [← hk.2.1]; decide
  · obtain ⟨L, tr, h1, _⟩ := h.ord
    obtain ⟨c, hc, _⟩ := h1.row
    rw [hc] at hk; simp at hk; rw [← hk.2.1]; decide
  · obtain ⟨L, tr, h1, _⟩ := h.idx
    obtain ⟨c, hc, _⟩ := h1.row
    rw [hc] at hk; simp at hk; rw [← hk.2.1]; decide
theorem SlJ.keepS {P : Nat → Prop} {w w' : World} {v : Value} {l : List Int} (h : SlJ w v l) (t : Touch P w w') (hS : OnlyS w P) : SlJ w' v l := by
  obtain ⟨ao, cap, e, h1, h2, h3, h4⟩ := h
  refine ⟨ao, cap, e, h1, h2, h3, ?_⟩
  rcases h4 with h4 | ⟨b, o, e, ⟨c, hT⟩, hx⟩
  · exact .inl h4
  · have hb := t.block b (lt_of_heap hT) fun hs => (hS _ _ _ _ hT hs).1 rfl
    exact .inr ⟨b, o, e, ⟨c, hb.trans hT⟩, fun j u hu => by rw [World.cell?_of_block hb]; exact hx j u hu⟩
theorem RqAt.keepS {P : Nat → Prop} {w w' : World} {b : Nat} {r : RS} (h : RqAt w b r) (t : Touch P w w') (hS : OnlyS w P) : RqAt w' b r := by
  obtain ⟨c, hc⟩ := h.blk
  have hb := t.block b (lt_of_heap hc) fun hs => (hS _ _ _ _ hc hs).2.1 rfl
  refine ⟨⟨c, hb.trans hc⟩, ?_, ?_, ?_⟩
  · obtain ⟨v, M, h1, h2, h3, h4⟩ := h.l
    refine ⟨v, M, (World.cell?_of_block hb).trans h1, ⟨h2.1, ?_⟩, h3, fun i h h' => ⟨(h4 i h h').u, (h4 i h h').par, (h4 i h h').left, (h4 i h h').lefts.keepS t hS, (h4 i h h').more.keepS t hS⟩⟩
    rcases h2.2 with h | ⟨g, cap, cur, rfl, q, hg, r⟩
    · exact .inl h
    · exact .inr ⟨g, cap, cur, rfl, q, (t.block g (lt_of_heap hg) fun hs => (hS _ _ _ _ hg hs).2.2.1 rfl).trans hg, r⟩
  · obtain ⟨v, h1, h2⟩ := h.more
    exact ⟨v, (World.cell?_of_block hb).trans h1, h2.keepS t hS⟩
  · obtain ⟨v, h1, h2⟩ := h.ord
    exact ⟨v, (World.cell?_of_block hb).trans h1, h2.keepS t hS⟩
theorem SeqM.noQ {w : World} {B : Bk} {S : SS} {b : Nat} {r : RS} (h : SeqM w B S) (hq : RqAt w b r) : ¬ B.has b := fun hb => by
  obtain ⟨c, hc⟩ := hq.blk
  exact (h.onlyS _ _ _ _ hc hb).2.1 rfl
theorem RqAt.new (w : World) : RqAt (w.alloc (.cells #[.slice none 0 0, .slice none 0 0, .slice none 0 0] 30 (0, 0))) w.heap.size .zero := by
  have hb := heap_alloc_new w (.cells #[.slice none 0 0, .slice none 0 0, .slice none 0 0] 30 (0, 0))
  refine ⟨⟨_, hb⟩, ⟨.slice none 0 0, [], by rw [cell_of_block hb]; rfl, World.ownsRow_nil _ _ _ _, rfl, fun i h => absurd h (Nat.not_lt_zero _)⟩, ⟨.slice none 0 0, by rw [cell_of_block hb]; rfl, SlJ.nil _⟩, ⟨.slice none 0 0, by rw [cell_of_block hb]; rfl, SlJ.nil _⟩⟩
/-- Steps' boxes lie as they lay. -/
def KeepT (W w' : World) : Prop := ∀ (k : Nat) (c : Array Value) (fr : Nat × Nat), W.heap[k]? = some (.cells c 37 fr) → w'.heap[k]? = some (.cells c 37 fr)
theorem KeepT.of {P : Nat → Prop} {W w' : World} (t : Touch P W w') (h : OnlyS W P) : KeepT W w' := fun k c fr hk => (t.block _ (lt_of_heap hk) fun hp => (h _ _ _ _ hk hp).2.2.2 rfl).trans hk
theorem KeepT.of0 {W w' : World} (t : Touch (fun _ => False) W w') : KeepT W w' := fun k c fr hk => heap_keep t hk
theorem KeepT.ofQ {W w' : World} {b : Nat} {r : RS} (t : Touch (fun x => x = b) W w') (hq : RqAt W b r) : KeepT W w' := fun k c fr hk => (t.block _ (lt_of_heap hk) fun e => by
  obtain ⟨c', hc⟩ := hq.blk
  rw [e, hc] at hk
  simp at hk).trans hk
/-- A sequence and a tree. -/
structure PlH (w W : World) (pa b : Nat) (S : SS) (r : RS) : Prop where
  s : ∃ A, Sq1 w W pa A S
  q : RqAt W b r
  nb : w.heap.size ≤ b
  t : Touch (fun _ => False) w W
theorem PlH.touch {w W W' : World} {pa b : Nat} {S : SS} {r : RS} (h : PlH w W pa b S r) (t : Touch (fun _ => False) W W') : PlH w W' pa b S r := by
  obtain ⟨A, a⟩ := h.s
  exact ⟨⟨A, a.touch t⟩, h.q.keep t, h.nb, h.t.trans t⟩
theorem PlH.ins {w W : World} {pa b : Nat} {S : SS} {r : RS} (h : PlH w W pa b S r) (u : Un) (hu : u.ok) {n : Nat} (hz : Size S n) (hn : n ≤ 1000000) :
    Calls Try.prog 14 #[.pointer (some ⟨pa, 0, none⟩), .agg #[.int .u64 u.c, .int .u64 u.k, .int .u64 u.lc, .int .u64 u.lk, .int .u64 u.rc, .int .u64 u.rk]] W fun e w' => e = .returned (.bool (S.may u 1)) ∧ PlH w w' pa b (S.run u 1) r ∧ KeepT W w' := by
  obtain ⟨A, a⟩ := h.s
  refine (a.ins u hu hz hn).mono ?_
  rintro e w' ⟨rfl, A', h1, h2, t⟩
  exact ⟨rfl, ⟨⟨A', h1⟩, h.q.keepS t a.mem.onlyS, h.nb, a.touch0 h.t t⟩, KeepT.of t a.mem.onlyS⟩
theorem PlH.onQ {w W W' : World} {pa b : Nat} {S : SS} {r r' : RS} (h : PlH w W pa b S r) (hq : RqAt W' b r') (t : Touch (fun x => x = b) W W') : PlH w W' pa b S r' := by
  obtain ⟨A, a⟩ := h.s
  refine ⟨⟨A, a.mem.keep t fun x hx e => a.mem.noQ h.q (e ▸ hx), a.at_, a.new, a.inv⟩, hq, h.nb, h.t.then t fun k hk e => ?_⟩
  have := h.nb
  omega
theorem PlH.insQ {w W : World} {pa b : Nat} {S : SS} {r : RS} (h : PlH w W pa b S r) (hI : RInv r) (u : Un) (hl : r.l.length ≤ 1000000) :
    Calls Try.prog 16 #[qP b, .agg #[.int .u64 u.c, .int .u64 u.k, .int .u64 u.lc, .int .u64 u.lk, .int .u64 u.rc, .int .u64 u.rk]] W fun e w' => e = .returned (.bool (r.may u)) ∧ PlH w w' pa b S (r.insert u) ∧ KeepT W w' := by
  refine (qinsert_any h.q hI u hl).mono ?_
  rintro e w' ⟨rfl, q1, q2⟩
  exact ⟨rfl, h.onQ q1 q2, KeepT.ofQ q2 h.q⟩
theorem PlH.runQ {w W : World} {pa b : Nat} {S : SS} {r : RS} (h : PlH w W pa b S r) (hI : RInv r) (u : Un) (hu : u.ok) (n : Int) (hn : -9223372036854775808 ≤ n ∧ n ≤ 20) (hl : r.l.length ≤ 900000) :
    Calls Try.prog 12 #[qP b, .agg #[.int .u64 u.c, .int .u64 u.k, .int .u64 u.lc, .int .u64 u.lk, .int .u64 u.rc, .int .u64 u.rk], .int .i64 n] W fun e w' => e = .returned (.bool (r.mayN u n)) ∧ PlH w w' pa b S (r.runN u n) ∧ KeepT W w' := by
  refine (qrun_any h.q hI u hu n hn hl).mono ?_
  rintro e w' ⟨rfl, q1, q2⟩
  exact ⟨rfl, h.onQ q1 q2, KeepT.ofQ q2 h.q⟩
set_option maxHeartbeats 4000000 in
/-- Run of none. -/
theorem run_none {w : World} {p : Nat} (u : Un) (n : Int) (hn : n < 1) :
    Calls Try.prog 11 #[.pointer (some ⟨p, 0, none⟩), .agg #[.int .u64 u.c, .int .u64 u.k, .int .u64 u.lc, .int .u64 u.lk, .int .u64 u.rc, .int .u64 u.rk], .int .i64 n] w fun e w' => e = .returned (.bool false) ∧ Touch (fun _ => False) w w' := by
  obtain ⟨E, hE⟩ : ∃ E, Hid (E = w.alloc (unO u)) := ⟨_, Eq.refl _⟩
  have HTE : Hid (Touch (fun _ => False) w E) := by rw [hE.out]; exact (Touch.refl _ _).alloc _
  obtain ⟨c0, c1, -, -, -, -⟩ := unO_cells (show E.heap[w.heap.size]? = some (unO u) by rw [hE.out]; exact heap_alloc_new _ _)
  have HR : Hid (∀ W, Calls Try.prog 27 #[.agg #[.int .u64 u.c, .int .u64 u.k]] W fun e w' => e = .returned (.bool (numOk u.c && numOk u.k)) ∧ Touch (fun _ => False) W w') := fun W => (right_any u.c u.k W).mono fun e w' q => ⟨q.1, by rw [q.2]; exact (Touch.refl _ _).alloc _⟩
  obtain ⟨uc, uk, ulc, ulk, urc, urk⟩ := u
  simp only at c0 c1 HR
  generalize (numOk uc && numOk uk) = rt at *
  go_enter Try.func11, Try.ntmps11
  go_upto_region 1 with fail
  rw [← hE.out]
  clear hE
  cases rt with
  | false =>
    go_wp2_with fail
    refine (HR.out _).mono ?_
    rintro e W1 ⟨rfl, t1⟩
    have HT1 : Hid (Touch (fun _ => False) w W1) := HTE.out.trans t1
    clear t1 HR c0 c1
    go_wp2_with fail
    go_ret
    exact ⟨rfl, HT1.out⟩
  | true =>
    go_wp2_with fail
    refine (HR.out _).mono ?_
    rintro e W1 ⟨rfl, t1⟩
    have HT1 : Hid (Touch (fun _ => False) w W1) := HTE.out.trans t1
    clear t1 HR c0 c1
    go_wp2_with fail
    go_ret
    exact ⟨rfl, HT1.out⟩
theorem PlH.run {w W : World} {pa b : Nat} {S : SS} {r : RS} (h : PlH w W pa b S r) (u : Un) (hu : u.ok) (n : Int) (hn : n ≤ 20) {k : Nat} (hz : Size S k) (hk : k ≤ 100000) :
    Calls Try.prog 11 #[.pointer (some ⟨pa, 0, none⟩), .agg #[.int .u64 u.c, .int .u64 u.k, .int .u64 u.lc, .int .u64 u.lk, .int .u64 u.rc, .int .u64 u.rk], .int .i64 n] W fun e w' => e = .returned (.bool (S.may u n)) ∧ PlH w w' pa b (S.run u n) r ∧ KeepT W w' := by
  by_cases h1 : n < 1
  · refine (run_none u n h1).mono ?_
    rintro e w' ⟨rfl, t⟩
    obtain ⟨e1, e2⟩ := run_low (S := S) (u := u) h1
    rw [e1, e2]
    exact ⟨rfl, h.touch t, KeepT.of0 t⟩
  · obtain ⟨A, a⟩ := h.s
    refine (a.runN u hu n (by omega) hz hk).mono ?_
    rintro e w' ⟨rfl, A', h1, h2, t⟩
    exact ⟨rfl, ⟨⟨A', h1⟩, h.q.keepS t a.mem.onlyS, h.nb, a.touch0 h.t t⟩, KeepT.of t a.mem.onlyS⟩
/-- A copy that goes on, while the elder one goes its own way. -/
theorem PlH.copy {w W : World} {pa b : Nat} {S : SS} {r : RS} (h : PlH w W pa b S r) {n : Nat} (hz : Size S n) (hn : n ≤ 1000000) :
    Calls Try.prog 13 #[.pointer (some ⟨pa, 0, none⟩)] W fun e w' => ∃ pc, e = .returned (.pointer (some ⟨pc, 0, none⟩)) ∧ Touch (fun _ => False) W w' ∧ ∀ W2, Touch (fun _ => False) w' W2 → ∀ (u : Un), u.ok → Calls Try.prog 14 #[.pointer (some ⟨pa, 0, none⟩), .agg #[.int .u64 u.c, .int .u64 u.k, .int .u64 u.lc, .int .u64 u.lk, .int .u64 u.rc, .int .u64 u.rk]] W2 fun e w' => (∃ bo, e = .returned (.bool bo)) ∧ PlH w w' pc b S r := by
  obtain ⟨A, a⟩ := h.s
  refine (a.copy hz hn h.t).mono ?_
  rintro e w' ⟨pc, C, rfl, c1, c2, c3⟩
  refine ⟨pc, rfl, c3, fun W2 t2 u hu => ?_⟩
  have a2 := a.touch (c3.trans t2)
  refine (a2.ins u hu hz hn).mono ?_
  rintro e w3 ⟨rfl, A', h1, h2, t⟩
  have hap : ApartB C A := fun k hk hb => by
    have := a.mem.lt hb
    have := c2 k hk
    omega
  exact ⟨⟨_, rfl⟩, ⟨C, (c1.touch t2).other t hap⟩, (h.q.keep (c3.trans t2)).keepS t a2.mem.onlyS, h.nb, a2.touch0 (h.t.trans (c3.trans t2)) t⟩
/-- Both, alike. -/
structure PlW (w W : World) (pa b : Nat) (S : SS) (r : RS) (n : Nat) : Prop where
  h : PlH w W pa b S r
  c : ∃ sp, Corr S r sp
  z : Size S n
theorem PlW.len {w W : World} {pa b : Nat} {S : SS} {r : RS} {n : Nat} (h : PlW w W pa b S r n) : r.l.length ≤ n ∧ RInv r ∧ S.units.length ≤ n := by
  obtain ⟨sp, c⟩ := h.c
  have h1 := c.total
  have h2 := h.z.tot
  have h3 := c.inv.units_len
  exact ⟨by omega, c.ok.inv, by omega⟩
theorem Corr.run {S : SS} {r : RS} {sp : Nat → Sp} (h : Corr S r sp) {u : Un} (hu : u.ok) (n : Int) (hn : n ≤ 20) {N : Nat} (hz : Size S N) (hN : N ≤ 100000) : S.may u n = r.mayN u n ∧ (∃ sp', Corr (S.run u n) (r.runN u n) sp') ∧ Size (S.run u n) (N + 20) := by
  have hm := h.mayN hu n
  have hs := (h.inv.runN hu n (by omega) hz hN).2.mono (show N + n.toNat ≤ N + 20 by omega)
  refine ⟨hm, ?_, hs⟩
  cases e : S.may u n with
  | false =>
    have e2 : S.run u n = S := by unfold SS.run; rw [e]; rfl
    have e3 : r.runN u n = r := by unfold RS.runN; rw [← hm, e]; rfl
    rw [e2, e3]
    exact ⟨sp, h⟩
  | true =>
    have h1 : 1 ≤ n := by
      refine Decidable.byContradiction fun q => ?_
      rw [(run_low (S := S) (u := u) (show n < 1 by omega)).1] at e
      cases e
    obtain ⟨m, rfl⟩ := Int.eq_ofNat_of_zero_le (show 0 ≤ n by omega)
    have e3 : r.runN u (m : Int) = r.inserts (runUns u m) := by unfold RS.runN; rw [← hm, e, if_pos rfl, Int.toNat_natCast]
    rw [e3]
    exact h.stepN hu (by omega) e hz (by omega)
theorem PlW.same {w W : World} {pa b : Nat} {S : SS} {r : RS} {n : Nat} (h : PlW w W pa b S r n) (hn : n ≤ 1000000) :
    Calls Try.prog 17 #[.pointer (some ⟨pa, 0, none⟩), qP b] W fun e w' => e = .returned (.bool true) ∧ PlW w w' pa b S r n := by
  obtain ⟨A, a⟩ := h.h.s
  obtain ⟨sp, c⟩ := h.c
  have hl := h.len.2.2
  have hp := a.at_
  subst hp
  refine (same_any a.mem h.h.q c.sameR (by omega)).mono ?_
  rintro e w' ⟨rfl, t⟩
  exact ⟨rfl, h.h.touch t, h.c, h.z⟩
end Go.Proofs.Ytnbphdmpbjahhaa

/- Lists of files by names, in the names' order. It speaks of no program. -/
import Derived.Maps.OwnSet
import Derived.Sort.KeysCollected
import Derived.Test.YtnilikomoapcaaaGreatPart17
import Derived.Test.YtnilikomoapcaaaGreatPart8
import Derived.Test.YtnilikomoapcaaaGreatItP
import Derived.Deep.MidRow
import Derived.OwnWalkIn
import Derived.Test.YtnilikomoapcaaaGreatPart12
import Derived.Test.YtnilikomoapcaaaGreatPart9
import Derived.Lib.AppendZeros
import Derived.Deep.RegionHeld3
namespace Go.Proofs.YtnilikomoapcaaaGreat
open Go.RowKit Go.Maps
set_option linter.unusedVariables false

abbrev Key := List UInt8

/-- The entry of that key, laid in where it belongs. -/
def ains {α : Type} (k : Key) (x : α) : List (Key × α) → List (Key × α)
  | [] => [(k, x)]
  | y :: r => if bytesBefore k y.1 then (k, x) :: y :: r else y :: ains k x r
def adel {α : Type} (k : Key) (l : List (Key × α)) : List (Key × α) := l.filter fun p => !(p.1 == k)
def aput {α : Type} (k : Key) (x : α) (l : List (Key × α)) : List (Key × α) := ains k x (adel k l)
def aget {α : Type} (k : Key) : List (Key × α) → Option α
  | [] => none
  | y :: r => if y.1 == k then some y.2 else aget k r
def amap {α β : Type} (f : α → β) (l : List (Key × α)) : List (Key × β) := l.map fun p => (p.1, f p.2)
/-- No name twice, in their order. -/
def Rising {α : Type} (l : List (Key × α)) : Prop := l.Pairwise fun p q => bytesBefore p.1 q.1 = true

theorem before_irrefl : ∀ a : Key, bytesBefore a a = false
  | [] => rfl
  | a :: r => by simp [bytesBefore, before_irrefl r]
theorem before_trans : ∀ a b c : Key, bytesBefore a b = true → bytesBefore b c = true → bytesBefore a c = true
  | [], [], _, h, _ => by simp [bytesBefore] at h
  | [], _ :: _, [], _, h => by simp [bytesBefore] at h
  | [], _ :: _, _ :: _, _, _ => by simp [bytesBefore]
  | _ :: _, [], _, h, _ => by simp [bytesBefore] at h
  | _ :: _, _ :: _, [], _, h => by simp [bytesBefore] at h
  | a :: r, b :: s, c :: t, h, k => by
    simp only [bytesBefore, Bool.or_eq_true, decide_eq_true_eq, Bool.and_eq_true, beq_iff_eq] at h k ⊢
    rcases h with h | ⟨rfl, h⟩
    · rcases k with k | ⟨rfl, k⟩
      · exact .inl (UInt8.lt_trans h k)
      · exact .inl h
    · rcases k with k | ⟨rfl, k⟩
      · exact .inl k
      · exact .inr ⟨rfl, before_trans r s t h k⟩
theorem before_total : ∀ a b : Key, a ≠ b → bytesBefore a b = false → bytesBefore b a = true
  | [], [], h, _ => absurd rfl h
  | [], _ :: _, _, h => by simp [bytesBefore] at h
  | _ :: _, [], _, _ => by simp [bytesBefore]
  | a :: r, b :: s, h, k => by
    simp only [bytesBefore, Bool.or_eq_false_iff, decide_eq_false_iff_not, Bool.and_eq_false_iff, beq_eq_false_iff_ne] at k
    simp only [bytesBefore, Bool.or_eq_true, decide_eq_true_eq, Bool.and_eq_true, beq_iff_eq]
    obtain ⟨k1, k2⟩ := k
    by_cases e : a = b
    · subst e
      refine .inr ⟨rfl, before_total r s (fun e => h (by rw [e])) ?_⟩
      rcases k2 with k2 | k2
      · exact absurd rfl k2
      · exact k2
    · left
      rcases UInt8.lt_or_lt_of_ne e with h1 | h1
      · exact absurd h1 k1
      · exact h1
theorem before_ne {a b : Key} (h : bytesBefore a b = true) : a ≠ b := by
  rintro rfl; rw [before_irrefl] at h; cases h
theorem before_lt : ∀ a b : Key, bytesBefore a b = true → a < b
  | [], [], h => by simp [bytesBefore] at h
  | [], _ :: _, _ => List.nil_lt_cons _ _
  | _ :: _, [], h => by simp [bytesBefore] at h
  | a :: r, b :: s, h => by
    simp only [bytesBefore, Bool.or_eq_true, decide_eq_true_eq, Bool.and_eq_true, beq_iff_eq] at h
    rcases h with h | ⟨rfl, h⟩
    · exact List.cons_lt_cons_iff.2 (.inl h)
    · exact List.cons_lt_cons_iff.2 (.inr ⟨rfl, before_lt r s h⟩)

section
variable {α β : Type} {l : List (Key × α)} {k k' : Key} {x : α}
theorem mem_ains : ∀ {l : List (Key × α)} {p : Key × α}, p ∈ ains k x l ↔ p = (k, x) ∨ p ∈ l
  | [], p => by simp [ains]
  | y :: r, p => by
    unfold ains; split
    · simp
    · simp only [List.mem_cons, mem_ains (l := r)]
      constructor
      · rintro (h | h | h)
        · exact .inr (.inl h)
        · exact .inl h
        · exact .inr (.inr h)
      · rintro (h | h | h)
        · exact .inr (.inl h)
        · exact .inl h
        · exact .inr (.inr h)
theorem mem_adel {p : Key × α} : p ∈ adel k l ↔ p ∈ l ∧ p.1 ≠ k := by simp [adel]
theorem mem_aput {p : Key × α} : p ∈ aput k x l ↔ p = (k, x) ∨ (p ∈ l ∧ p.1 ≠ k) := by rw [aput, mem_ains, mem_adel]
theorem Rising.ains : ∀ {l : List (Key × α)}, Rising l → (∀ p ∈ l, p.1 ≠ k) → Rising (ains k x l)
  | [], _, _ => by simp [Rising, Proofs.YtnilikomoapcaaaGreat.ains]
  | y :: r, h, hk => by
    have h' := List.pairwise_cons.1 h
    unfold Proofs.YtnilikomoapcaaaGreat.ains
    split
    · rename_i hb
      refine List.pairwise_cons.2 ⟨fun q hq => ?_, h⟩
      rcases List.mem_cons.1 hq with rfl | hq
      · exact hb
      · exact before_trans _ _ _ hb (h'.1 q hq)
    · rename_i hb
      refine List.pairwise_cons.2 ⟨fun q hq => ?_, Rising.ains h'.2 (fun p hp => hk p (by simp [hp]))⟩
      rcases mem_ains.1 hq with rfl | hq
      · exact before_total _ _ (fun e => hk y (by simp) e.symm) (by simpa using hb)
      · exact h'.1 q hq
theorem Rising.adel (h : Rising l) : Rising (adel k l) := List.Pairwise.filter _ h
theorem Rising.aput (h : Rising l) : Rising (aput k x l) := Rising.ains h.adel fun p hp => (mem_adel.1 hp).2
theorem aget_none : ∀ {l : List (Key × α)}, aget k l = none ↔ ∀ p ∈ l, p.1 ≠ k
  | [] => by simp [aget]
  | y :: r => by
    unfold aget
    split
    · rename_i h; simp at h; simp [h]
    · rename_i h; simp at h; rw [aget_none (l := r)]; simp [h]
theorem aget_mem : ∀ {l : List (Key × α)}, aget k l = some x → (k, x) ∈ l
  | [], h => by simp [aget] at h
  | y :: r, h => by
    unfold aget at h
    split at h
    · rename_i h'; simp at h'; cases h; rw [← h']; simp
    · exact List.mem_cons_of_mem _ (aget_mem h)
theorem aget_of_mem : ∀ {l : List (Key × α)}, Rising l → (k, x) ∈ l → aget k l = some x
  | [], _, h => by simp at h
  | y :: r, hr, h => by
    have h' := List.pairwise_cons.1 hr
    unfold aget
    rcases List.mem_cons.1 h with rfl | h
    · simp
    · rw [if_neg (by simpa using before_ne (h'.1 _ h))]
      exact aget_of_mem h'.2 h
theorem aget_ains_same : ∀ {l : List (Key × α)}, (∀ p ∈ l, p.1 ≠ k) → aget k (ains k x l) = some x
  | [], _ => by simp [ains, aget]
  | y :: r, h => by
    unfold ains; split
    · simp [aget]
    · have := h y (by simp); simp [aget, this]; exact aget_ains_same fun p hp => h p (by simp [hp])
theorem aget_ains_other (hk : k ≠ k') : ∀ {l : List (Key × α)}, aget k' (ains k x l) = aget k' l
  | [] => by simp [ains, aget, hk]
  | y :: r => by
    unfold ains; split
    · simp [aget, hk]
    · simp only [aget]; split
      · rfl
      · exact aget_ains_other hk
theorem aget_adel_other (hk : k ≠ k') : ∀ {l : List (Key × α)}, aget k' (adel k l) = aget k' l
  | [] => rfl
  | y :: r => by
    by_cases e : y.1 = k
    · have : y.1 ≠ k' := fun e' => hk (e ▸ e')
      simp [adel, e, aget, hk]
      exact aget_adel_other hk (l := r)
    · simp [adel, e, aget]
      split
      · rfl
      · exact aget_adel_other hk (l := r)
theorem aget_adel_same : aget k (adel k l) = none := aget_none.2 fun p hp => (mem_adel.1 hp).2
theorem aget_aput_same : aget k (aput k x l) = some x := aget_ains_same fun p hp => (mem_adel.1 hp).2
theorem aget_aput_other (hk : k ≠ k') : aget k' (aput k x l) = aget k' l := by rw [aput, aget_ains_other hk, aget_adel_other hk]
theorem adel_id (h : aget k l = none) : adel k l = l := by
  rw [aget_none] at h
  exact List.filter_eq_self.2 fun p hp => by simpa using h p hp

theorem amap_ains (f : α → β) : ∀ {l : List (Key × α)}, amap f (ains k x l) = ains k (f x) (amap f l)
  | [] => rfl
  | y :: r => by
    unfold ains amap
    simp only [List.map_cons]
    split
    · rfl
    · simp only [List.map_cons]; rw [show List.map (fun p : Key × α => (p.1, f p.2)) (ains k x r) = ains k (f x) (amap f r) from amap_ains f]; rfl
theorem amap_adel (f : α → β) : amap f (adel k l) = adel k (amap f l) := by
  simp [amap, adel, List.filter_map, Function.comp_def]
theorem amap_aput (f : α → β) : amap f (aput k x l) = aput k (f x) (amap f l) := by rw [aput, amap_ains, amap_adel]; rfl
theorem aget_amap (f : α → β) : ∀ {l : List (Key × α)}, aget k (amap f l) = (aget k l).map f
  | [] => rfl
  | y :: r => by
    simp only [amap, List.map_cons, aget]
    split
    · rfl
    · exact aget_amap f (l := r)
theorem Rising.amap (f : α → β) (h : Rising l) : Rising (amap f l) := List.pairwise_map.2 h

/-- A sum over all entries. -/
def asum (g : α → Nat) (l : List (Key × α)) : Nat := (l.map fun p => g p.2).sum
theorem asum_ains (g : α → Nat) : ∀ {l : List (Key × α)}, asum g (ains k x l) = g x + asum g l
  | [] => by simp [ains, asum]
  | y :: r => by
    unfold ains; split
    · simp [asum]
    · have := asum_ains g (l := r)
      simp only [asum, List.map_cons, List.sum_cons] at this ⊢
      omega
theorem asum_adel (g : α → Nat) : ∀ {l : List (Key × α)}, Rising l → asum g (adel k l) + (match aget k l with | some x => g x | none => 0) = asum g l
  | [], _ => rfl
  | y :: r, h => by
    have h' := List.pairwise_cons.1 h
    by_cases e : y.1 = k
    · have hn : aget k r = none := aget_none.2 fun p hp => fun e2 => before_ne (h'.1 p hp) (e.trans e2.symm)
      have hd : adel k (y :: r) = r := by
        have : adel k (y :: r) = adel k r := by simp [adel, e]
        rw [this, adel_id hn]
      rw [hd]
      simp [aget, e, asum]
      omega
    · have := asum_adel g h'.2
      have hd : adel k (y :: r) = y :: adel k r := by simp [adel, e]
      rw [hd]
      simp only [aget, beq_iff_eq, e, if_false, asum, List.map_cons, List.sum_cons] at this ⊢
      omega
theorem asum_aput (g : α → Nat) (h : Rising l) : asum g (aput k x l) + (match aget k l with | some x => g x | none => 0) = g x + asum g l := by
  rw [aput, asum_ains]
  have := asum_adel (k := k) g h
  omega
theorem sum_ge {n : Nat} : ∀ {l : List Nat}, n ∈ l → n ≤ l.sum
  | [], h => by simp at h
  | a :: r, h => by
    simp only [List.sum_cons]
    rcases List.mem_cons.1 h with e | e
    · omega
    · have := sum_ge e; omega
theorem asum_le (g : α → Nat) (h : (k, x) ∈ l) : g x ≤ asum g l := sum_ge (List.mem_map.2 ⟨(k, x), h, rfl⟩)
theorem asum_amap (f : α → β) (g : β → Nat) : asum g (amap f l) = asum (fun x => g (f x)) l := by simp [asum, amap, Function.comp_def]
theorem asum_bound (g : α → Nat) (B : Nat) : ∀ {l : List (Key × α)}, (∀ p ∈ l, g p.2 ≤ B) → asum g l ≤ l.length * B
  | [], _ => by simp [asum]
  | y :: r, h => by
    have := asum_bound g B (l := r) fun p hp => h p (by simp [hp])
    have := h y (by simp)
    simp only [asum, List.map_cons, List.sum_cons, List.length_cons, Nat.add_mul, Nat.one_mul] at *
    omega
end
end Go.Proofs.YtnilikomoapcaaaGreat

/- Package marks: Gap, Over, Less, isShown. -/
namespace Go.Proofs.YtnilikomoapcaaaGreat
open Go.RowKit
set_option linter.unusedVariables false
set_option linter.unusedSimpArgs false
set_option maxRecDepth 100000

/-- Gap, as a function. -/
def gapM (S : SS) (c k : Int) (af : Bool) : Int × Bool :=
  if c = 0 ∧ k = 0 then ((if af then (S.units.length : Int) else 0), true) else if S.find c k < 0 then (0, false) else ((if af then S.find c k + 1 else S.find c k), true)
def overM (S : SS) (o : O) : Int × Int :=
  if (gapM S o.fc o.fk o.fa).2 = true ∧ (gapM S o.tc o.tk o.ta).2 = true ∧ (gapM S o.fc o.fk o.fa).1 < (gapM S o.tc o.tk o.ta).1 then ((gapM S o.fc o.fk o.fa).1, (gapM S o.tc o.tk o.ta).1) else (0, 0)
def lessM (a b : O) : Bool := if a.st = b.st then lessI a.c a.k b.c b.k else decide (a.st < b.st)
/-- A sequence that is read: Find and Len of it. -/
structure SeqRd (w : World) (p : Nat) (S : SS) : Prop where
  len : ∀ W, Touch (fun _ => False) w W → Calls Tryz.prog 13 #[.pointer (some ⟨p, 0, none⟩)] W fun e w' => e = .returned (.int .i64 (S.units.length : Int)) ∧ Touch (fun _ => False) W w'
  find : ∀ W c k, Touch (fun _ => False) w W → 0 ≤ c → 0 ≤ k → k < 18446744073709551616 → Calls Tryz.prog 15 #[.pointer (some ⟨p, 0, none⟩), .agg #[.int .u64 c, .int .u64 k]] W fun e w' => e = .returned (.int .i64 (S.find c k)) ∧ Touch (fun _ => False) W w'
  le : S.units.length ≤ 1000000
  fle : ∀ c k, 0 ≤ c → 0 ≤ k → -1 ≤ S.find c k ∧ S.find c k < (S.units.length : Int)
theorem SeqRd.touch {w w' : World} {p : Nat} {S : SS} (h : SeqRd w p S) (t : Touch (fun _ => False) w w') : SeqRd w' p S := ⟨fun W t2 => h.len W (t.trans t2), fun W c k t2 => h.find W c k (t.trans t2), h.le, h.fle⟩
abbrev anO (c k : Int) (af : Bool) : Obj := .cells #[.int .u64 c, .int .u64 k, .bool af] 37
theorem cmp00 (a b : Int) : ((a == 0) = true ∧ (b == 0) = true ∧ a = 0 ∧ b = 0) ∨ ((a == 0) = true ∧ (b == 0) = false ∧ ¬ (a = 0 ∧ b = 0)) ∨ ((a == 0) = false ∧ ¬ (a = 0 ∧ b = 0)) := by
  by_cases h1 : a = 0 <;> by_cases h2 : b = 0 <;> simp [h1, h2]
set_option maxHeartbeats 4000000 in
theorem gap_any {w : World} {p : Nat} {S : SS} (h : SeqRd w p S) (c k : Int) (af : Bool) (hc : 0 ≤ c) (hk : 0 ≤ k ∧ k < 18446744073709551616) :
    Calls Tryz.prog 18 #[.pointer (some ⟨p, 0, none⟩), .agg #[.int .u64 c, .int .u64 k, .bool af]] w fun e w' => e = .returned (.tuple #[.int .i64 (gapM S c k af).1, .bool (gapM S c k af).2]) ∧ Touch (fun _ => False) w w' := by
  obtain ⟨E, hE⟩ : ∃ E, Hid (E = w.alloc (anO c k af)) := ⟨_, Eq.refl _⟩
  have HTE : Hid (Touch (fun _ => False) w E) := by rw [hE.out]; exact (Touch.refl _ _).alloc _
  have HB : Hid (E.heap[w.heap.size]? = some (anO c k af)) := by rw [hE.out]; exact heap_alloc_new _ _
  have c0 : E.cell? ⟨w.heap.size, 0, none⟩ = some (.int .u64 c) := by rw [cell_of_block HB.out]; rfl
  have c1 : E.cell? ⟨w.heap.size, 1, none⟩ = some (.int .u64 k) := by rw [cell_of_block HB.out]; rfl
  have c2 : E.cell? ⟨w.heap.size, 2, none⟩ = some (.bool af) := by rw [cell_of_block HB.out]; rfl
  have HL : Hid (Calls Tryz.prog 13 #[.pointer (some ⟨p, 0, none⟩)] E fun e w' => e = .returned (.int .i64 (S.units.length : Int)) ∧ Touch (fun _ => False) E w') := h.len E HTE.out
  have HF : Hid (Calls Tryz.prog 15 #[.pointer (some ⟨p, 0, none⟩), .agg #[.int .u64 c, .int .u64 k]] E fun e w' => e = .returned (.int .i64 (S.find c k)) ∧ Touch (fun _ => False) E w') := h.find E c k HTE.out hc hk.1 hk.2
  have hfb := h.fle c k hc hk.1
  have hle := h.le
  clear h hc hk
  rcases cmp00 c k with ⟨a1, a2, a3, a4⟩ | ⟨a1, a2, a3⟩ | ⟨a1, a3⟩
  · have HG : Hid (gapM S c k af = ((if af then (S.units.length : Int) else 0), true)) := by unfold gapM; rw [Hid, if_pos ⟨a3, a4⟩]
    clear a3 a4 hfb
    generalize S.units.length = ul at *
    rw [HG.out]
    clear HG
    cases af with
    | true =>
      go_enter Tryz.func18, Tryz.ntmps18
      go_upto_region 1 with fail
      rw [← hE.out]
      clear hE
      go_wp2_with fail
      refine HL.out.mono ?_
      rintro e W1 ⟨rfl, t1⟩
      have HT : Hid (Touch (fun _ => False) w W1) := HTE.out.trans t1
      clear t1 c0 c1 c2
      go_wp2_with fail
      refine bodyPost_ret (v := .tuple #[.int .i64 (ul : Int), .bool true]) (by simp [results, Tryz.results18, go_sem]) rfl ?_
      exact ⟨rfl, HT.out⟩
    | false =>
      go_enter Tryz.func18, Tryz.ntmps18
      go_upto_region 1 with fail
      rw [← hE.out]
      clear hE
      go_wp2_with fail
      refine bodyPost_ret (v := .tuple #[.int .i64 0, .bool true]) (by simp [results, Tryz.results18, go_sem]) rfl ?_
      exact ⟨rfl, HTE.out⟩
  all_goals
    have HG : Hid (gapM S c k af = if S.find c k < 0 then (0, false) else ((if af then S.find c k + 1 else S.find c k), true)) := by unfold gapM; rw [Hid, if_neg a3]
    have HK : Hid (∀ W, Touch (fun _ => False) E W → W.cell? ⟨w.heap.size, 2, none⟩ = some (.bool af)) := fun W t => by rw [cell_of_block (heap_keep t HB.out)]; rfl
    rw [HG.out]
    clear HG a3 HL
    generalize S.find c k = f at *
    by_cases hf : f < 0
    · rw [if_pos hf]
      go_enter Tryz.func18, Tryz.ntmps18
      go_upto_region 1 with fail
      rw [← hE.out]
      clear hE
      go_wp2_with fail
      refine HF.out.mono ?_
      rintro e W1 ⟨rfl, t1⟩
      have HT : Hid (Touch (fun _ => False) w W1) := HTE.out.trans t1
      clear t1 c0 c1 c2
      go_wp2_with fail
      refine bodyPost_ret (v := .tuple #[.int .i64 0, .bool false]) (by simp [results, Tryz.results18, go_sem]) rfl ?_
      exact ⟨rfl, HT.out⟩
    · rw [if_neg hf]
      have ew : IntKind.i64.wrap (f + 1) = f + 1 := by rw [IntKind.wrap_i64]; omega
      cases af with
      | true =>
        go_enter Tryz.func18, Tryz.ntmps18
        go_upto_region 1 with fail
        rw [← hE.out]
        clear hE
        go_wp2_with fail
        refine HF.out.mono ?_
        rintro e W1 ⟨rfl, t1⟩
        have HT : Hid (Touch (fun _ => False) w W1) := HTE.out.trans t1
        have d2 := HK.out W1 t1
        clear t1 c0 c1 c2
        go_wp2_with fail
        refine bodyPost_ret (v := .tuple #[.int .i64 (f + 1), .bool true]) (by simp [results, Tryz.results18, go_sem]) rfl ?_
        exact ⟨rfl, HT.out⟩
      | false =>
        go_enter Tryz.func18, Tryz.ntmps18
        go_upto_region 1 with fail
        rw [← hE.out]
        clear hE
        go_wp2_with fail
        refine HF.out.mono ?_
        rintro e W1 ⟨rfl, t1⟩
        have HT : Hid (Touch (fun _ => False) w W1) := HTE.out.trans t1
        have d2 := HK.out W1 t1
        clear t1 c0 c1 c2
        go_wp2_with fail
        refine bodyPost_ret (v := .tuple #[.int .i64 f, .bool true]) (by simp [results, Tryz.results18, go_sem]) rfl ?_
        exact ⟨rfl, HT.out⟩
theorem gapM_le {S : SS} (c k : Int) (hf : -1 ≤ S.find c k ∧ S.find c k < (S.units.length : Int)) (af : Bool) : 0 ≤ (gapM S c k af).1 ∧ (gapM S c k af).1 ≤ (S.units.length : Int) := by
  have := hf
  unfold gapM
  split
  · cases af <;> simp
  · split
    · simp
    · cases af <;> simp <;> omega
theorem opO_from {W : World} {m : Nat} {o : O} (h : W.heap[m]? = some (opO o)) : (W.cell? ⟨m, 16, none⟩ = some (.int .u64 o.fc) ∧ W.cell? ⟨m, 17, none⟩ = some (.int .u64 o.fk) ∧ W.cell? ⟨m, 18, none⟩ = some (.bool o.fa)) ∧ W.cell? ⟨m, 19, none⟩ = some (.int .u64 o.tc) ∧ W.cell? ⟨m, 20, none⟩ = some (.int .u64 o.tk) ∧ W.cell? ⟨m, 21, none⟩ = some (.bool o.ta) :=
  ⟨⟨by rw [cell_of_block h]; rfl, by rw [cell_of_block h]; rfl, by rw [cell_of_block h]; rfl⟩, by rw [cell_of_block h]; rfl, by rw [cell_of_block h]; rfl, by rw [cell_of_block h]; rfl⟩
theorem opO_head {W : World} {m : Nat} {o : O} (h : W.heap[m]? = some (opO o)) : W.cell? ⟨m, 0, none⟩ = some (.int .u64 o.c) ∧ W.cell? ⟨m, 1, none⟩ = some (.int .u64 o.k) ∧ W.cell? ⟨m, 2, none⟩ = some (.int .i64 o.kind) ∧ W.cell? ⟨m, 3, none⟩ = some (.int .u64 o.st) ∧ W.cell? ⟨m, 9, none⟩ = some (.int .i64 o.vk) ∧ W.cell? ⟨m, 13, none⟩ = some (.string o.ky) :=
  ⟨by rw [cell_of_block h]; rfl, by rw [cell_of_block h]; rfl, by rw [cell_of_block h]; rfl, by rw [cell_of_block h]; rfl, by rw [cell_of_block h]; rfl, by rw [cell_of_block h]; rfl⟩
set_option maxHeartbeats 8000000 in
theorem over_any {w : World} {p : Nat} {S : SS} (h : SeqRd w p S) (o : O) (ho : o.fits) :
    Calls Tryz.prog 19 #[.pointer (some ⟨p, 0, none⟩), o.val] w fun e w' => e = .returned (.tuple #[.int .i64 (overM S o).1, .int .i64 (overM S o).2]) ∧ Touch (fun _ => False) w w' := by
  obtain ⟨E, hE⟩ : ∃ E, Hid (E = w.alloc (opO o)) := ⟨_, Eq.refl _⟩
  have HTE : Hid (Touch (fun _ => False) w E) := by rw [hE.out]; exact (Touch.refl _ _).alloc _
  have HB : Hid (E.heap[w.heap.size]? = some (opO o)) := by rw [hE.out]; exact heap_alloc_new _ _
  have HC : Hid (∀ W, Touch (fun _ => False) E W → (W.cell? ⟨w.heap.size, 16, none⟩ = some (.int .u64 o.fc) ∧ W.cell? ⟨w.heap.size, 17, none⟩ = some (.int .u64 o.fk) ∧ W.cell? ⟨w.heap.size, 18, none⟩ = some (.bool o.fa)) ∧ W.cell? ⟨w.heap.size, 19, none⟩ = some (.int .u64 o.tc) ∧ W.cell? ⟨w.heap.size, 20, none⟩ = some (.int .u64 o.tk) ∧ W.cell? ⟨w.heap.size, 21, none⟩ = some (.bool o.ta)) := fun W t => opO_from (heap_keep t HB.out)
  have HG1 : Hid (∀ W, Touch (fun _ => False) E W → Calls Tryz.prog 18 #[.pointer (some ⟨p, 0, none⟩), .agg #[.int .u64 o.fc, .int .u64 o.fk, .bool o.fa]] W fun e w' => e = .returned (.tuple #[.int .i64 (gapM S o.fc o.fk o.fa).1, .bool (gapM S o.fc o.fk o.fa).2]) ∧ Touch (fun _ => False) W w') := fun W t => gap_any (h.touch (HTE.out.trans t)) _ _ _ ho.fc.1 ho.fk
  have HG2 : Hid (∀ W, Touch (fun _ => False) E W → Calls Tryz.prog 18 #[.pointer (some ⟨p, 0, none⟩), .agg #[.int .u64 o.tc, .int .u64 o.tk, .bool o.ta]] W fun e w' => e = .returned (.tuple #[.int .i64 (gapM S o.tc o.tk o.ta).1, .bool (gapM S o.tc o.tk o.ta).2]) ∧ Touch (fun _ => False) W w') := fun W t => gap_any (h.touch (HTE.out.trans t)) _ _ _ ho.tc.1 ho.tk
  have HO : Hid (overM S o = if (gapM S o.fc o.fk o.fa).2 = true ∧ (gapM S o.tc o.tk o.ta).2 = true ∧ (gapM S o.fc o.fk o.fa).1 < (gapM S o.tc o.tk o.ta).1 then ((gapM S o.fc o.fk o.fa).1, (gapM S o.tc o.tk o.ta).1) else (0, 0)) := rfl
  obtain ⟨R, hR⟩ : ∃ R, Hid (R = overM S o) := ⟨_, Eq.refl _⟩
  rw [← hR.out]
  rw [HO.out] at hR
  clear HO h ho
  generalize gapM S o.fc o.fk o.fa = ga at *
  generalize gapM S o.tc o.tk o.ta = gb at *
  obtain ⟨a, ab⟩ := ga
  obtain ⟨b, bb⟩ := gb
  obtain ⟨R1, R2⟩ := R
  simp only at HG1 HG2 hR ⊢
  obtain ⟨oc, ok, okind, ost, olc, olk, orc, ork, otx, ovk, ovn, ovf, ovs, oky, opc, opk, ofc, ofk, ofa, otc, otk, ota⟩ := o
  simp only at HC HG1 HG2
  obtain ⟨⟨c0, c1, c2⟩, -⟩ := HC.out E (Touch.refl _ _)
  go_enter Tryz.func19, Tryz.ntmps19
  go_upto_region 1 with fail
  rw [← hE.out]
  clear hE
  go_wp2_with fail
  refine (HG1.out _ (Touch.refl _ _)).mono ?_
  rintro e W1 ⟨rfl, t1⟩
  have HT1 : Hid (Touch (fun _ => False) E W1) := t1
  obtain ⟨-, d0, d1, d2⟩ := HC.out W1 t1
  clear t1 c0 c1 c2 HG1
  go_wp2_with fail
  refine (HG2.out _ HT1.out).mono ?_
  rintro e W2 ⟨rfl, t2⟩
  have HT2 : Hid (Touch (fun _ => False) w W2) := HTE.out.trans (HT1.out.trans t2)
  clear t2 d0 d1 d2 HG2 HC HB
  cases ab with
  | false =>
    have HR0 : Hid (R1 = 0 ∧ R2 = 0) := by rw [Hid]; have := hR.out; simpa using this
    go_wp2_with fail
    refine bodyPost_ret (v := .tuple #[.int .i64 0, .int .i64 0]) (by simp [results, Tryz.results19, go_sem]) rfl ?_
    exact ⟨by rw [HR0.out.1, HR0.out.2], HT2.out⟩
  | true =>
    cases bb with
    | false =>
      have HR0 : Hid (R1 = 0 ∧ R2 = 0) := by rw [Hid]; have := hR.out; simpa using this
      go_wp2_with fail
      refine bodyPost_ret (v := .tuple #[.int .i64 0, .int .i64 0]) (by simp [results, Tryz.results19, go_sem]) rfl ?_
      exact ⟨by rw [HR0.out.1, HR0.out.2], HT2.out⟩
    | true =>
      by_cases hab : a < b
      · have l1 : ¬ b ≤ a := by omega
        have HR0 : Hid (R1 = a ∧ R2 = b) := by rw [Hid]; have := hR.out; rw [if_pos ⟨rfl, rfl, hab⟩] at this; simpa using this
        go_wp2_with fail
        refine bodyPost_ret (v := .tuple #[.int .i64 a, .int .i64 b]) (by simp [results, Tryz.results19, go_sem]) rfl ?_
        exact ⟨by rw [HR0.out.1, HR0.out.2], HT2.out⟩
      · have l1 : b ≤ a := by omega
        have HR0 : Hid (R1 = 0 ∧ R2 = 0) := by rw [Hid]; have := hR.out; rw [if_neg (fun q => hab q.2.2)] at this; simpa using this
        go_wp2_with fail
        refine bodyPost_ret (v := .tuple #[.int .i64 0, .int .i64 0]) (by simp [results, Tryz.results19, go_sem]) rfl ?_
        exact ⟨by rw [HR0.out.1, HR0.out.2], HT2.out⟩
set_option maxHeartbeats 8000000 in
theorem mless_any (x y : O) (w : World) :
    Calls Tryz.prog 20 #[x.val, y.val] w fun e w' => e = .returned (.bool (lessM x y)) ∧ Touch (fun _ => False) w w' := by
  obtain ⟨E, hE⟩ : ∃ E, Hid (E = (w.alloc (opO x)).alloc (opO y)) := ⟨_, Eq.refl _⟩
  have HTE : Hid (Touch (fun _ => False) w E) := by rw [hE.out]; exact ((Touch.refl _ _).alloc _).alloc _
  have HB : Hid (E.heap[w.heap.size]? = some (opO x) ∧ E.heap[w.heap.size + 1]? = some (opO y)) := by
    rw [hE.out]
    refine ⟨(Below.heap_alloc _ _ _ (by simp)).trans (heap_alloc_new _ _), ?_⟩
    have := heap_alloc_new (w.alloc (opO x)) (opO y)
    simpa using this
  obtain ⟨x0, x1, -, x3, -, -⟩ := opO_head HB.out.1
  obtain ⟨y0, y1, -, y3, -, -⟩ := opO_head HB.out.2
  have HL : Hid (∀ W, Calls Tryz.prog 43 #[.agg #[.int .u64 x.c, .int .u64 x.k], .agg #[.int .u64 y.c, .int .u64 y.k]] W fun e w' => e = .returned (.bool (lessI x.c x.k y.c y.k)) ∧ Touch (fun _ => False) W w') := fun W => (less_any x.c x.k y.c y.k W).mono fun e w' q => ⟨q.1, by rw [q.2]; exact ((Touch.refl _ _).alloc _).alloc _⟩
  obtain ⟨mb, hmb⟩ : ∃ mb, Hid (mb = lessM x y) := ⟨_, Eq.refl _⟩
  rw [← hmb.out]
  unfold lessM at hmb
  obtain ⟨xc, xk, xkind, xst, xlc, xlk, xrc, xrk, xtx, xvk, xvn, xvf, xvs, xky, xpc, xpk, xfc, xfk, xfa, xtc, xtk, xta⟩ := x
  obtain ⟨yc, yk, ykind, yst, ylc, ylk, yrc, yrk, ytx, yvk, yvn, yvf, yvs, yky, ypc, ypk, yfc, yfk, yfa, ytc, ytk, yta⟩ := y
  simp only at x0 x1 x3 y0 y1 y3 HL hmb ⊢
  clear HB
  go_enter Tryz.func20, Tryz.ntmps20
  go_upto_region 1 with fail
  rw [← hE.out]
  clear hE
  by_cases hst : xst = yst
  · subst hst
    have HM : Hid (mb = lessI xc xk yc yk) := by have := hmb.out; rw [if_pos rfl] at this; exact this
    have b0 : (xst == xst) = true := by simp
    go_wp2_with fail
    refine (HL.out _).mono ?_
    rintro e W1 ⟨rfl, t1⟩
    have HT : Hid (Touch (fun _ => False) w W1) := HTE.out.trans t1
    clear t1 HL x0 x1 x3 y0 y1 y3
    go_wp2_with fail
    go_ret
    exact ⟨by rw [HM.out]; rfl, HT.out⟩
  · have HM : Hid (mb = decide (xst < yst)) := by have := hmb.out; rw [if_neg hst] at this; exact this
    have b0 : (xst == yst) = false := by simpa using hst
    go_wp2_with fail
    go_ret
    exact ⟨by rw [HM.out]; rfl, HTE.out⟩
set_option maxHeartbeats 4000000 in
theorem isShown_any (x : O) (w : World) : Calls Tryz.prog 33 #[x.val] w fun e w' => e = .returned (.bool (!(x.vk == 0))) ∧ Touch (fun _ => False) w w' := by
  obtain ⟨E, hE⟩ : ∃ E, Hid (E = w.alloc (opO x)) := ⟨_, Eq.refl _⟩
  have HTE : Hid (Touch (fun _ => False) w E) := by rw [hE.out]; exact (Touch.refl _ _).alloc _
  obtain ⟨-, -, -, -, x4, -⟩ := opO_head (show E.heap[w.heap.size]? = some (opO x) by rw [hE.out]; exact heap_alloc_new _ _)
  obtain ⟨xc, xk, xkind, xst, xlc, xlk, xrc, xrk, xtx, xvk, xvn, xvf, xvs, xky, xpc, xpk, xfc, xfk, xfa, xtc, xtk, xta⟩ := x
  simp only at x4 ⊢
  go_enter Tryz.func33, Tryz.ntmps33
  go_upto_region 1 with fail
  rw [← hE.out]
  clear hE
  cases hb : (xvk == 0) with
  | true =>
    go_wp2_with fail
    go_ret
    exact ⟨rfl, HTE.out⟩
  | false =>
    go_wp2_with fail
    go_ret
    exact ⟨rfl, HTE.out⟩
end Go.Proofs.YtnilikomoapcaaaGreat

/- Loads and stores of structs of many cells, inside a fence (the twins of MidRow's laws at a plain region's list). -/
namespace Go.Proofs.YtnilikomoapcaaaGreat
open Go.RowKit
set_option linter.unusedVariables false

section
variable {F : Fence} {n : Nat} {P : Program}
theorem wpIn_load_mid {op : Oper} {a : Act} {w : World} {K : Act → World → Prop} {Q : Exit → Act → World → Prop} (ty : TypeId) (x : Operand) (ho : op.op = .load ty x)
    (b o : Nat) (hx : a.eval x = .pointer (some ⟨b, o, none⟩)) (cs : List Value) (d : TypeDesc) (hc : w.rangeAt b o cs)
    (hu : P.underlying ty = some d) (hd : d.isRow = true) (hi : (P.info? ty).map (·.size) = some cs.length)
    (h : K (a.put op.dst (.agg cs.toArray)) w) : op.wpIn F n P a w K Q := by
  unfold Oper.wpIn
  refine ⟨by simp [Oper.about, ho], ?_⟩
  rw [Oper.semAt_plain F _ _ (by rw [ho]; intro c hc'; cases hc')]
  unfold execOp
  simp only [ho, hx, Instr.loadAt, Instr.sureAddr, Sem.run_bind, Sem.run_pure, Result.andThen_ok, run_loadVar_mid w b o ty cs d hc hu hd hi]
  exact h
theorem wpListIn_load_mid {ops : Array Oper} {rest : List Oper} {op : Oper} {a : Act} {w : World} {Q : Exit → Act → World → Prop} (hgd : op.guard = none) (ty : TypeId) (x : Operand) (ho : op.op = .load ty x)
    (b o : Nat) (hx : a.eval x = .pointer (some ⟨b, o, none⟩)) (cs : List Value) (d : TypeDesc) (hc : w.rangeAt b o cs)
    (hu : P.underlying ty = some d) (hd : d.isRow = true) (hi : (P.info? ty).map (·.size) = some cs.length)
    (h : wpListIn F n P ops Q rest (a.put op.dst (.agg cs.toArray)) w) : wpListIn F n P ops Q (op :: rest) a w :=
  wpListIn_plain hgd fun _ hK => wpIn_load_mid ty x ho b o hx cs d hc hu hd hi (hK _ _ h)
theorem wpIn_store_mid {op : Oper} {a : Act} {w : World} {K : Act → World → Prop} {Q : Exit → Act → World → Prop} (ty : TypeId) (x y : Operand) (ho : op.op = .store ty x y)
    (b o : Nat) (cells : Array Value) (hx : a.eval x = .pointer (some ⟨b, o, none⟩)) (hy : a.eval y = .agg cells)
    (ht : w.there b o cells.size) (hi : (P.info? ty).map (·.size) = some cells.size) (h1 : cells.all (·.oneCell') = true)
    (h : K (a.put op.dst undef) (w.setCells b o cells.toList)) : op.wpIn F n P a w K Q := by
  unfold Oper.wpIn
  refine ⟨by simp [Oper.about, ho], ?_⟩
  rw [Oper.semAt_plain F _ _ (by rw [ho]; intro c hc'; cases hc')]
  unfold execOp
  simp only [ho, hx, hy, Instr.storeAt, Instr.sureAddr, Sem.run_bind, Sem.run_pure, Result.andThen_ok, run_storeVar_mid w b o ty cells ht hi h1]
  exact h
theorem wpListIn_store_mid {ops : Array Oper} {rest : List Oper} {op : Oper} {a : Act} {w : World} {Q : Exit → Act → World → Prop} (hgd : op.guard = none) (ty : TypeId) (x y : Operand) (ho : op.op = .store ty x y)
    (b o : Nat) (cells : Array Value) (hx : a.eval x = .pointer (some ⟨b, o, none⟩)) (hy : a.eval y = .agg cells)
    (ht : w.there b o cells.size) (hi : (P.info? ty).map (·.size) = some cells.size) (h1 : cells.all (·.oneCell') = true)
    (h : wpListIn F n P ops Q rest (a.put op.dst undef) (w.setCells b o cells.toList)) : wpListIn F n P ops Q (op :: rest) a w :=
  wpListIn_plain hgd fun _ hK => wpIn_store_mid ty x y ho b o cells hx hy ht hi h1 (hK _ _ h)
end
end Go.Proofs.YtnilikomoapcaaaGreat

/- Package seq: copies of its slices. -/
namespace Go.Proofs.YtnilikomoapcaaaGreat
open Go.RowKit Go.Maps
set_option linter.unusedVariables false
set_option linter.unusedSimpArgs false
set_option maxRecDepth 100000

/-- A block of structs' cells. -/
def BlkAt (m ty : Nat) (w : World) (g cap n : Nat) (cs : List Value) : Prop := ∃ cur, w.heap[g]? = some (.cells cur ty (0, 0)) ∧ cur.size = cap * m ∧ n ≤ cap ∧ cap ≤ 9223372036854775807 ∧ cur.toList.take (n * m) = cs
theorem BlkAt.keep {m ty : Nat} {w w' : World} {g cap n : Nat} {cs : List Value} (h : BlkAt m ty w g cap n cs) (t : Touch (fun _ => False) w w') : BlkAt m ty w' g cap n cs := by
  obtain ⟨cur, h0, h1⟩ := h
  exact ⟨cur, heap_keep t h0, h1⟩
theorem BlkAt.lt {m ty : Nat} {w : World} {g cap n : Nat} {cs : List Value} (h : BlkAt m ty w g cap n cs) : g < w.heap.size := by
  obtain ⟨cur, h0, h1⟩ := h
  exact lt_of_heap h0
theorem wpList_append_any {w w' : World} {ops : Array Oper} {rest : List Oper} {o : Oper} {a : Act} {Q : Exit → Act → World → Prop} {t : Nat} (hgd : o.guard = none) (s x : Operand)
    (ho : o.op = .call { callee := .builtin .append, args := #[s, x], argTypes := #[t, t] }) (v y v' : Value) (hs : a.eval s = v) (hx : a.eval x = y)
    (hrun : (Builtin.append_ #[t, t] o.type #[v, y]).run Tryz.prog w = .ok v' w') (h : wpList Tryz.prog ops Q rest (a.put o.dst v') w') : wpList Tryz.prog ops Q (o :: rest) a w := by
  refine wpList_plain hgd fun K' hK' => ?_
  unfold Oper.wp
  simp [execOp, ho, resolve, invoke, builtin, hs, hx, hrun, Result.andThen]
  exact hK' _ _ h
theorem cellH_len (x : Th) : (cellH x).length = 5 := rfl
end Go.Proofs.YtnilikomoapcaaaGreat

/- Package seq: a row's copy. -/
namespace Go.Proofs.YtnilikomoapcaaaGreat
open Go.RowKit
set_option linter.unusedVariables false
set_option linter.unusedSimpArgs false
set_option maxRecDepth 100000

/-- A row without the cell that holds its slice. -/
def RowBk (w : World) (g cap n : Nat) (F : List Nat) (len : Nat → Int) : Prop :=
  ∃ L t, BlkAt 5 111 w g cap L.length (L.flatMap cellH) ∧ L.length = n ∧ RowOk (gt L) n t ∧ t.flat = F ∧ ∀ x, (gt L x).long = len x
theorem RowAt.bk {w : World} {b k g cap n : Nat} {F : List Nat} {len : Nat → Int} (h : RowAt w b k g cap n F len) : RowBk w g cap n F len := by
  obtain ⟨L, t, h1, h2⟩ := h
  exact ⟨L, t, h1.row, h2⟩
theorem RowBk.row {w : World} {b k g cap n : Nat} {F : List Nat} {len : Nat → Int} (h : RowBk w g cap n F len) (hc : w.cell? ⟨b, k, none⟩ = some (.slice (some ⟨g, 0, none⟩) n cap)) (hb : b ≠ g) : RowAt w b k g cap n F len := by
  obtain ⟨L, t, h1, h2, h3⟩ := h
  subst h2
  exact ⟨L, t, ⟨hc, hb, h1⟩, rfl, h3⟩
theorem RowBk.keep {w w' : World} {g cap n : Nat} {F : List Nat} {len : Nat → Int} (h : RowBk w g cap n F len) (t : Touch (fun _ => False) w w') : RowBk w' g cap n F len := by
  obtain ⟨L, tr, h1, h2⟩ := h
  exact ⟨L, tr, h1.keep t, h2⟩
end Go.Proofs.YtnilikomoapcaaaGreat

/- Package seq: Copy. -/
namespace Go.Proofs.YtnilikomoapcaaaGreat
open Go.RowKit
set_option linter.unusedVariables false
set_option linter.unusedSimpArgs false
set_option maxRecDepth 100000

/-- A sequence's block. -/
abbrev seqO (gr kr nr gp kp np go ko gi ki : Nat) : Obj := .cells #[.slice (some ⟨gr, 0, none⟩) nr kr, .slice (some ⟨gp, 0, none⟩) np kp, .slice (some ⟨go, 0, none⟩) np ko, .slice (some ⟨gi, 0, none⟩) np ki] 74
end Go.Proofs.YtnilikomoapcaaaGreat

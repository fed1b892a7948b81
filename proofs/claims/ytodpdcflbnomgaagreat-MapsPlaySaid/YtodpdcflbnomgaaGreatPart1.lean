/- Lists of files by names, in the names' order. It speaks of no program. -/
import Derived.Maps.OwnSet
import Derived.Sort.KeysCollected
import Derived.WalkKit
import Derived.WalkSpells
namespace Go.Proofs.YtodpdcflbnomgaaGreat
open Go.RowKit Go.Maps
set_option linter.unusedVariables false

abbrev Key := List UInt8

/-- The entry of that key, laid in where it belongs. -/
def ains {α : Type} (k : Key) (x : α) : List (Key × α) → List (Key × α)
  | [] => [(k, x)]
  | y :: r => if bytesBefore k y.1 then (k, x) :: y :: r else y :: ains k x r
def adel {α : Type} (k : Key) (l : List (Key × α)) : List (Key × α) := l.filter fun p => !(p.1 == k)
def aput {α : Type} (k : Key) (x : α) (l : List (Key × α)) : List (Key × α) := ains k x (adel k l)
def aget {α : Type} (k : Key) : List (Key × α) → Option α
  | [] => none
  | y :: r => if y.1 == k then some y.2 else aget k r
def amap {α β : Type} (f : α → β) (l : List (Key × α)) : List (Key × β) := l.map fun p => (p.1, f p.2)
/-- No name twice, in their order. -/
def Rising {α : Type} (l : List (Key × α)) : Prop := l.Pairwise fun p q => bytesBefore p.1 q.1 = true

theorem before_irrefl : ∀ a : Key, bytesBefore a a = false
  | [] => rfl
  | a :: r => by simp [bytesBefore, before_irrefl r]
theorem before_trans : ∀ a b c : Key, bytesBefore a b = true → bytesBefore b c = true → bytesBefore a c = true
  | [], [], _, h, _ => by simp [bytesBefore] at h
  | [], _ :: _, [], _, h => by simp [bytesBefore] at h
  | [], _ :: _, _ :: _, _, _ => by simp [bytesBefore]
  | _ :: _, [], _, h, _ => by simp [bytesBefore] at h
  | _ :: _, _ :: _, [], _, h => by simp [bytesBefore] at h
  | a :: r, b :: s, c :: t, h, k => by
    simp only [bytesBefore, Bool.or_eq_true, decide_eq_true_eq, Bool.and_eq_true, beq_iff_eq] at h k ⊢
    rcases h with h | ⟨rfl, h⟩
    · rcases k with k | ⟨rfl, k⟩
      · exact .inl (UInt8.lt_trans h k)
      · exact .inl h
    · rcases k with k | ⟨rfl, k⟩
      · exact .inl k
      · exact .inr ⟨rfl, before_trans r s t h k⟩
theorem before_total : ∀ a b : Key, a ≠ b → bytesBefore a b = false → bytesBefore b a = true
  | [], [], h, _ => absurd rfl h
  | [], _ :: _, _, h => by simp [bytesBefore] at h
  | _ :: _, [], _, _ => by simp [bytesBefore]
  | a :: r, b :: s, h, k => by
    simp only [bytesBefore, Bool.or_eq_false_iff, decide_eq_false_iff_not, Bool.and_eq_false_iff, beq_eq_false_iff_ne] at k
    simp only [bytesBefore, Bool.or_eq_true, decide_eq_true_eq, Bool.and_eq_true, beq_iff_eq]
    obtain ⟨k1, k2⟩ := k
    by_cases e : a = b
    · subst e
      refine .inr ⟨rfl, before_total r s (fun e => h (by rw [e])) ?_⟩
      rcases k2 with k2 | k2
      · exact absurd rfl k2
      · exact k2
    · left
      rcases UInt8.lt_or_lt_of_ne e with h1 | h1
      · exact absurd h1 k1
      · exact h1
theorem before_ne {a b : Key} (h : bytesBefore a b = true) : a ≠ b := by
  rintro rfl; rw [before_irrefl] at h; cases h
theorem before_lt : ∀ a b : Key, bytesBefore a b = true → a < b
  | [], [], h => by simp [bytesBefore] at h
  | [], _ :: _, _ => List.nil_lt_cons _ _
  | _ :: _, [], h => by simp [bytesBefore] at h
  | a :: r, b :: s, h => by
    simp only [bytesBefore, Bool.or_eq_true, decide_eq_true_eq, Bool.and_eq_true, beq_iff_eq] at h
    rcases h with h | ⟨rfl, h⟩
    · exact List.cons_lt_cons_iff.2 (.inl h)
    · exact List.cons_lt_cons_iff.2 (.inr ⟨rfl, before_lt r s h⟩)

section
variable {α β : Type} {l : List (Key × α)} {k k' : Key} {x : α}
theorem mem_ains : ∀ {l : List (Key × α)} {p : Key × α}, p ∈ ains k x l ↔ p = (k, x) ∨ p ∈ l
  | [], p => by simp [ains]
  | y :: r, p => by
    unfold ains; split
    · simp
    · simp only [List.mem_cons, mem_ains (l := r)]
      constructor
      · rintro (h | h | h)
        · exact .inr (.inl h)
        · exact .inl h
        · exact .inr (.inr h)
      · rintro (h | h | h)
        · exact .inr (.inl h)
        · exact .inl h
        · exact .inr (.inr h)
theorem mem_adel {p : Key × α} : p ∈ adel k l ↔ p ∈ l ∧ p.1 ≠ k := by simp [adel]
theorem mem_aput {p : Key × α} : p ∈ aput k x l ↔ p = (k, x) ∨ (p ∈ l ∧ p.1 ≠ k) := by rw [aput, mem_ains, mem_adel]
theorem Rising.ains : ∀ {l : List (Key × α)}, Rising l → (∀ p ∈ l, p.1 ≠ k) → Rising (ains k x l)
  | [], _, _ => by simp [Rising, Proofs.YtodpdcflbnomgaaGreat.ains]
  | y :: r, h, hk => by
    have h' := List.pairwise_cons.1 h
    unfold Proofs.YtodpdcflbnomgaaGreat.ains
    split
    · rename_i hb
      refine List.pairwise_cons.2 ⟨fun q hq => ?_, h⟩
      rcases List.mem_cons.1 hq with rfl | hq
      · exact hb
      · exact before_trans _ _ _ hb (h'.1 q hq)
    · rename_i hb
      refine List.pairwise_cons.2 ⟨fun q hq => ?_, Rising.ains h'.2 (fun p hp => hk p (by simp [hp]))⟩
      rcases mem_ains.1 hq with rfl | hq
      · exact before_total _ _ (fun e => hk y (by simp) e.symm) (by simpa using hb)
      · exact h'.1 q hq
theorem Rising.adel (h : Rising l) : Rising (adel k l) := List.Pairwise.filter _ h
theorem Rising.aput (h : Rising l) : Rising (aput k x l) := Rising.ains h.adel fun p hp => (mem_adel.1 hp).2
theorem aget_none : ∀ {l : List (Key × α)}, aget k l = none ↔ ∀ p ∈ l, p.1 ≠ k
  | [] => by simp [aget]
  | y :: r => by
    unfold aget
    split
    · rename_i h; simp at h; simp [h]
    · rename_i h; simp at h; rw [aget_none (l := r)]; simp [h]
theorem aget_mem : ∀ {l : List (Key × α)}, aget k l = some x → (k, x) ∈ l
  | [], h => by simp [aget] at h
  | y :: r, h => by
    unfold aget at h
    split at h
    · rename_i h'; simp at h'; cases h; rw [← h']; simp
    · exact List.mem_cons_of_mem _ (aget_mem h)
theorem aget_of_mem : ∀ {l : List (Key × α)}, Rising l → (k, x) ∈ l → aget k l = some x
  | [], _, h => by simp at h
  | y :: r, hr, h => by
    have h' := List.pairwise_cons.1 hr
    unfold aget
    rcases List.mem_cons.1 h with rfl | h
    · simp
    · rw [if_neg (by simpa using before_ne (h'.1 _ h))]
      exact aget_of_mem h'.2 h
theorem aget_ains_same : ∀ {l : List (Key × α)}, (∀ p ∈ l, p.1 ≠ k) → aget k (ains k x l) = some x
  | [], _ => by simp [ains, aget]
  | y :: r, h => by
    unfold ains; split
    · simp [aget]
    · have := h y (by simp); simp [aget, this]; exact aget_ains_same fun p hp => h p (by simp [hp])
theorem aget_ains_other (hk : k ≠ k') : ∀ {l : List (Key × α)}, aget k' (ains k x l) = aget k' l
  | [] => by simp [ains, aget, hk]
  | y :: r => by
    unfold ains; split
    · simp [aget, hk]
    · simp only [aget]; split
      · rfl
      · exact aget_ains_other hk
theorem aget_adel_other (hk : k ≠ k') : ∀ {l : List (Key × α)}, aget k' (adel k l) = aget k' l
  | [] => rfl
  | y :: r => by
    by_cases e : y.1 = k
    · have : y.1 ≠ k' := fun e' => hk (e ▸ e')
      simp [adel, e, aget, hk]
      exact aget_adel_other hk (l := r)
    · simp [adel, e, aget]
      split
      · rfl
      · exact aget_adel_other hk (l := r)
theorem aget_adel_same : aget k (adel k l) = none := aget_none.2 fun p hp => (mem_adel.1 hp).2
theorem aget_aput_same : aget k (aput k x l) = some x := aget_ains_same fun p hp => (mem_adel.1 hp).2
theorem aget_aput_other (hk : k ≠ k') : aget k' (aput k x l) = aget k' l := by rw [aput, aget_ains_other hk, aget_adel_other hk]
theorem adel_id (h : aget k l = none) : adel k l = l := by
  rw [aget_none] at h
  exact List.filter_eq_self.2 fun p hp => by simpa using h p hp

theorem amap_ains (f : α → β) : ∀ {l : List (Key × α)}, amap f (ains k x l) = ains k (f x) (amap f l)
  | [] => rfl
  | y :: r => by
    unfold ains amap
    simp only [List.map_cons]
    split
    · rfl
    · simp only [List.map_cons]; rw [show List.map (fun p : Key × α => (p.1, f p.2)) (ains k x r) = ains k (f x) (amap f r) from amap_ains f]; rfl
theorem amap_adel (f : α → β) : amap f (adel k l) = adel k (amap f l) := by
  simp [amap, adel, List.filter_map, Function.comp_def]
theorem amap_aput (f : α → β) : amap f (aput k x l) = aput k (f x) (amap f l) := by rw [aput, amap_ains, amap_adel]; rfl
theorem aget_amap (f : α → β) : ∀ {l : List (Key × α)}, aget k (amap f l) = (aget k l).map f
  | [] => rfl
  | y :: r => by
    simp only [amap, List.map_cons, aget]
    split
    · rfl
    · exact aget_amap f (l := r)
theorem Rising.amap (f : α → β) (h : Rising l) : Rising (amap f l) := List.pairwise_map.2 h

/-- A sum over all entries. -/
def asum (g : α → Nat) (l : List (Key × α)) : Nat := (l.map fun p => g p.2).sum
theorem asum_ains (g : α → Nat) : ∀ {l : List (Key × α)}, asum g (ains k x l) = g x + asum g l
  | [] => by simp [ains, asum]
  | y :: r => by
    unfold ains; split
    · simp [asum]
    · have := asum_ains g (l := r)
      simp only [asum, List.map_cons, List.sum_cons] at this ⊢
      omega
theorem asum_adel (g : α → Nat) : ∀ {l : List (Key × α)}, Rising l → asum g (adel k l) + (match aget k l with | some x => g x | none => 0) = asum g l
  | [], _ => rfl
  | y :: r, h => by
    have h' := List.pairwise_cons.1 h
    by_cases e : y.1 = k
    · have hn : aget k r = none := aget_none.2 fun p hp => fun e2 => before_ne (h'.1 p hp) (e.trans e2.symm)
      have hd : adel k (y :: r) = r := by
        have : adel k (y :: r) = adel k r := by simp [adel, e]
        rw [this, adel_id hn]
      rw [hd]
      simp [aget, e, asum]
      omega
    · have := asum_adel g h'.2
      have hd : adel k (y :: r) = y :: adel k r := by simp [adel, e]
      rw [hd]
      simp only [aget, beq_iff_eq, e, if_false, asum, List.map_cons, List.sum_cons] at this ⊢
      omega
theorem asum_aput (g : α → Nat) (h : Rising l) : asum g (aput k x l) + (match aget k l with | some x => g x | none => 0) = g x + asum g l := by
  rw [aput, asum_ains]
  have := asum_adel (k := k) g h
  omega
theorem sum_ge {n : Nat} : ∀ {l : List Nat}, n ∈ l → n ≤ l.sum
  | [], h => by simp at h
  | a :: r, h => by
    simp only [List.sum_cons]
    rcases List.mem_cons.1 h with e | e
    · omega
    · have := sum_ge e; omega
theorem asum_le (g : α → Nat) (h : (k, x) ∈ l) : g x ≤ asum g l := sum_ge (List.mem_map.2 ⟨(k, x), h, rfl⟩)
theorem asum_amap (f : α → β) (g : β → Nat) : asum g (amap f l) = asum (fun x => g (f x)) l := by simp [asum, amap, Function.comp_def]
theorem asum_bound (g : α → Nat) (B : Nat) : ∀ {l : List (Key × α)}, (∀ p ∈ l, g p.2 ≤ B) → asum g l ≤ l.length * B
  | [], _ => by simp [asum]
  | y :: r, h => by
    have := asum_bound g B (l := r) fun p hp => h p (by simp [hp])
    have := h y (by simp)
    simp only [asum, List.map_cons, List.sum_cons, List.length_cons, Nat.add_mul, Nat.one_mul] at *
    omega
end
end Go.Proofs.YtodpdcflbnomgaaGreat

/- Small laws of worlds: what a call may touch; blocks behind a store, behind a new block. They speak of no program. -/
namespace Go.Proofs.YtodpdcflbnomgaaGreat
open Go.RowKit
set_option linter.unusedVariables false

/-- w' is w but for the blocks of S, and for new ones. -/
structure Touch (S : Nat → Prop) (w w' : World) : Prop where
  os : w'.os = w.os
  tape : w'.tape = w.tape
  output : w'.output = w.output
  size : w.heap.size ≤ w'.heap.size
  block : ∀ k, k < w.heap.size → ¬ S k → w'.heap[k]? = w.heap[k]?

theorem Touch.refl (S : Nat → Prop) (w : World) : Touch S w w := ⟨rfl, rfl, rfl, Nat.le_refl _, fun _ _ _ => rfl⟩
theorem Touch.trans {S : Nat → Prop} {a b c : World} (h : Touch S a b) (k : Touch S b c) : Touch S a c :=
  ⟨k.os.trans h.os, k.tape.trans h.tape, k.output.trans h.output, Nat.le_trans h.size k.size, fun i hi hs => (k.block i (Nat.lt_of_lt_of_le hi h.size) hs).trans (h.block i hi hs)⟩
theorem Touch.mono {S T : Nat → Prop} {a b : World} (h : Touch S a b) (hs : ∀ k, k < a.heap.size → S k → T k) : Touch T a b :=
  ⟨h.os, h.tape, h.output, h.size, fun k hk ht => h.block k hk fun x => ht (hs k hk x)⟩
/-- Two calls behind one another: what the second touches was touched, or may be, or is new. -/
theorem Touch.then {S T : Nat → Prop} {a b c : World} (h : Touch S a b) (k : Touch T b c) (hs : ∀ k, k < a.heap.size → T k → S k) : Touch S a c :=
  ⟨k.os.trans h.os, k.tape.trans h.tape, k.output.trans h.output, Nat.le_trans h.size k.size, fun i hi hn => (k.block i (Nat.lt_of_lt_of_le hi h.size) fun x => hn (hs i hi x)).trans (h.block i hi hn)⟩
theorem Touch.alloc {S : Nat → Prop} {a b : World} (h : Touch S a b) (o : Obj) : Touch S a (b.alloc o) :=
  ⟨h.os, h.tape, h.output, Nat.le_trans h.size (by simp), fun i hi hn => (Below.heap_alloc b o i (Nat.lt_of_lt_of_le hi h.size)).trans (h.block i hi hn)⟩
theorem heap_setCell_other (w : World) (a : Addr) (v : Value) (k : Nat) (h : a.block ≠ k) : (w.setCell a v).heap[k]? = w.heap[k]? := by
  simp [World.setCell, Array.getElem?_modify, h]
theorem heap_setCell_same (w : World) (p i : Nat) (v : Value) {c : Array Value} {t : TypeId} {fr : Nat × Nat} (h : w.heap[p]? = some (.cells c t fr)) :
    (w.setCell ⟨p, i, none⟩ v).heap[p]? = some (.cells (c.setIfInBounds i v) t fr) := by
  simp [World.setCell, Array.getElem?_modify, h]
theorem size_setCell (w : World) (a : Addr) (v : Value) : (w.setCell a v).heap.size = w.heap.size := by simp [World.setCell]
theorem Touch.setCell {S : Nat → Prop} {a b : World} (h : Touch S a b) (x : Addr) (v : Value) (hx : x.block < a.heap.size → S x.block) : Touch S a (b.setCell x v) :=
  ⟨h.os, h.tape, h.output, by rw [size_setCell]; exact h.size, fun i hi hn => (heap_setCell_other b x v i fun e => hn (e ▸ hx (e ▸ hi))).trans (h.block i hi hn)⟩
theorem Touch.drew {S : Nat → Prop} {a b : World} (h : Touch S a b) : Touch S a b.drew := ⟨h.os, h.tape, h.output, h.size, h.block⟩
theorem Touch.cell {S : Nat → Prop} {w w' : World} (h : Touch S w w') {b : Nat} (hb : b < w.heap.size) (hs : ¬ S b) (o : Nat) : w'.cell? ⟨b, o, none⟩ = w.cell? ⟨b, o, none⟩ :=
  World.cell?_of_block (a := ⟨b, o, none⟩) (h.block b hb hs)
theorem Touch.below {S : Nat → Prop} {B : Nat} {w w' : World} (h : Touch S w w') (hB : B ≤ w.heap.size) (hs : ∀ k, k < B → ¬ S k) : Below B w w' :=
  ⟨h.os, h.tape, h.output, h.size, fun k hk => h.block k (Nat.lt_of_lt_of_le hk hB) (hs k hk)⟩
theorem Touch.grown {S : Nat → Prop} {a b c : World} {r : Option Nat} (h : Touch S a b) (k : b.grownBy c r) (hr : ∀ i, r = some i → i < a.heap.size → S i) : Touch S a c :=
  ⟨k.os.trans h.os, k.tape.trans h.tape, k.output.trans h.output, Nat.le_trans h.size k.size, fun i hi hn => (k.block i (Nat.lt_of_lt_of_le hi h.size) fun e => hn (hr i e.symm hi)).trans (h.block i hi hn)⟩

theorem cell_of_block {w : World} {p i : Nat} {c : Array Value} {t : TypeId} {fr : Nat × Nat} (h : w.heap[p]? = some (.cells c t fr)) : w.cell? ⟨p, i, none⟩ = c[i]? := by
  simp [World.cell?, h]
theorem free_of_block {w : World} {p i : Nat} {c : Array Value} {t : TypeId} (h : w.heap[p]? = some (.cells c t (0, 0))) : w.frozen? ⟨p, i, none⟩ = false := by
  simp [World.frozen?, h]
theorem lt_of_heap {w : World} {p : Nat} {o : Obj} (h : w.heap[p]? = some o) : p < w.heap.size := by
  exact (Array.getElem?_eq_some_iff.1 h).1

end Go.Proofs.YtodpdcflbnomgaaGreat

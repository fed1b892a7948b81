/- Lists of files by names, in the names' order. It speaks of no program. -/
import Derived.Maps.OwnSet
import Derived.Sort.KeysCollected
import Derived.WalkKit
import Derived.WalkSpells
import Derived.Deep.MidRow
import Derived.Test.YtdnhoicfolkbnaaGreatChecked
import Derived.BigRegion
import Derived.Sort.Grow
import Derived.Deep.Draws
import Derived.Deep.LoopGhost
import Derived.Deep.RegionHeld3
import Derived.Deep.QuietTactic
import Derived.BigQuiet
import Derived.Deep.DeepCutAuto
namespace Go.Proofs.YtdnhoicfolkbnaaGreat
open Go.RowKit Go.Maps
set_option linter.unusedVariables false

abbrev Key := List UInt8

/-- The entry of that key, laid in where it belongs. -/
def ains {α : Type} (k : Key) (x : α) : List (Key × α) → List (Key × α)
  | [] => [(k, x)]
  | y :: r => if bytesBefore k y.1 then (k, x) :: y :: r else y :: ains k x r
def adel {α : Type} (k : Key) (l : List (Key × α)) : List (Key × α) := l.filter fun p => !(p.1 == k)
def aput {α : Type} (k : Key) (x : α) (l : List (Key × α)) : List (Key × α) := ains k x (adel k l)
def aget {α : Type} (k : Key) : List (Key × α) → Option α
  | [] => none
  | y :: r => if y.1 == k then some y.2 else aget k r
def amap {α β : Type} (f : α → β) (l : List (Key × α)) : List (Key × β) := l.map fun p => (p.1, f p.2)
/-- No name twice, in their order. -/
def Rising {α : Type} (l : List (Key × α)) : Prop := l.Pairwise fun p q => bytesBefore p.1 q.1 = true

theorem before_irrefl : ∀ a : Key, bytesBefore a a = false
  | [] => rfl
  | a :: r => by simp [bytesBefore, before_irrefl r]
theorem before_trans : ∀ a b c : Key, bytesBefore a b = true → bytesBefore b c = true → bytesBefore a c = true
  | [], [], _, h, _ => by simp [bytesBefore] at h
  | [], _ :: _, [], _, h => by simp [bytesBefore] at h
  | [], _ :: _, _ :: _, _, _ => by simp [bytesBefore]
  | _ :: _, [], _, h, _ => by simp [bytesBefore] at h
  | _ :: _, _ :: _, [], _, h => by simp [bytesBefore] at h
  | a :: r, b :: s, c :: t, h, k => by
    simp only [bytesBefore, Bool.or_eq_true, decide_eq_true_eq, Bool.and_eq_true, beq_iff_eq] at h k ⊢
    rcases h with h | ⟨rfl, h⟩
    · rcases k with k | ⟨rfl, k⟩
      · exact .inl (UInt8.lt_trans h k)
      · exact .inl h
    · rcases k with k | ⟨rfl, k⟩
      · exact .inl k
      · exact .inr ⟨rfl, before_trans r s t h k⟩
theorem before_total : ∀ a b : Key, a ≠ b → bytesBefore a b = false → bytesBefore b a = true
  | [], [], h, _ => absurd rfl h
  | [], _ :: _, _, h => by simp [bytesBefore] at h
  | _ :: _, [], _, _ => by simp [bytesBefore]
  | a :: r, b :: s, h, k => by
    simp only [bytesBefore, Bool.or_eq_false_iff, decide_eq_false_iff_not, Bool.and_eq_false_iff, beq_eq_false_iff_ne] at k
    simp only [bytesBefore, Bool.or_eq_true, decide_eq_true_eq, Bool.and_eq_true, beq_iff_eq]
    obtain ⟨k1, k2⟩ := k
    by_cases e : a = b
    · subst e
      refine .inr ⟨rfl, before_total r s (fun e => h (by rw [e])) ?_⟩
      rcases k2 with k2 | k2
      · exact absurd rfl k2
      · exact k2
    · left
      rcases UInt8.lt_or_lt_of_ne e with h1 | h1
      · exact absurd h1 k1
      · exact h1
theorem before_ne {a b : Key} (h : bytesBefore a b = true) : a ≠ b := by
  rintro rfl; rw [before_irrefl] at h; cases h
theorem before_lt : ∀ a b : Key, bytesBefore a b = true → a < b
  | [], [], h => by simp [bytesBefore] at h
  | [], _ :: _, _ => List.nil_lt_cons _ _
  | _ :: _, [], h => by simp [bytesBefore] at h
  | a :: r, b :: s, h => by
    simp only [bytesBefore, Bool.or_eq_true, decide_eq_true_eq, Bool.and_eq_true, beq_iff_eq] at h
    rcases h with h | ⟨rfl, h⟩
    · exact List.cons_lt_cons_iff.2 (.inl h)
    · exact List.cons_lt_cons_iff.2 (.inr ⟨rfl, before_lt r s h⟩)

section
variable {α β : Type} {l : List (Key × α)} {k k' : Key} {x : α}
theorem mem_ains : ∀ {l : List (Key × α)} {p : Key × α}, p ∈ ains k x l ↔ p = (k, x) ∨ p ∈ l
  | [], p => by simp [ains]
  | y :: r, p => by
    unfold ains; split
    · simp
    · simp only [List.mem_cons, mem_ains (l := r)]
      constructor
      · rintro (h | h | h)
        · exact .inr (.inl h)
        · exact .inl h
        · exact .inr (.inr h)
      · rintro (h | h | h)
        · exact .inr (.inl h)
        · exact .inl h
        · exact .inr (.inr h)
theorem mem_adel {p : Key × α} : p ∈ adel k l ↔ p ∈ l ∧ p.1 ≠ k := by simp [adel]
theorem mem_aput {p : Key × α} : p ∈ aput k x l ↔ p = (k, x) ∨ (p ∈ l ∧ p.1 ≠ k) := by rw [aput, mem_ains, mem_adel]
theorem Rising.ains : ∀ {l : List (Key × α)}, Rising l → (∀ p ∈ l, p.1 ≠ k) → Rising (ains k x l)
  | [], _, _ => by simp [Rising, Proofs.YtdnhoicfolkbnaaGreat.ains]
  | y :: r, h, hk => by
    have h' := List.pairwise_cons.1 h
    unfold Proofs.YtdnhoicfolkbnaaGreat.ains
    split
    · rename_i hb
      refine List.pairwise_cons.2 ⟨fun q hq => ?_, h⟩
      rcases List.mem_cons.1 hq with rfl | hq
      · exact hb
      · exact before_trans _ _ _ hb (h'.1 q hq)
    · rename_i hb
      refine List.pairwise_cons.2 ⟨fun q hq => ?_, Rising.ains h'.2 (fun p hp => hk p (by simp [hp]))⟩
      rcases mem_ains.1 hq with rfl | hq
      · exact before_total _ _ (fun e => hk y (by simp) e.symm) (by simpa using hb)
      · exact h'.1 q hq
theorem Rising.adel (h : Rising l) : Rising (adel k l) := List.Pairwise.filter _ h
theorem Rising.aput (h : Rising l) : Rising (aput k x l) := Rising.ains h.adel fun p hp => (mem_adel.1 hp).2
theorem aget_none : ∀ {l : List (Key × α)}, aget k l = none ↔ ∀ p ∈ l, p.1 ≠ k
  | [] => by simp [aget]
  | y :: r => by
    unfold aget
    split
    · rename_i h; simp at h; simp [h]
    · rename_i h; simp at h; rw [aget_none (l := r)]; simp [h]
theorem aget_mem : ∀ {l : List (Key × α)}, aget k l = some x → (k, x) ∈ l
  | [], h => by simp [aget] at h
  | y :: r, h => by
    unfold aget at h
    split at h
    · rename_i h'; simp at h'; cases h; rw [← h']; simp
    · exact List.mem_cons_of_mem _ (aget_mem h)
theorem aget_of_mem : ∀ {l : List (Key × α)}, Rising l → (k, x) ∈ l → aget k l = some x
  | [], _, h => by simp at h
  | y :: r, hr, h => by
    have h' := List.pairwise_cons.1 hr
    unfold aget
    rcases List.mem_cons.1 h with rfl | h
    · simp
    · rw [if_neg (by simpa using before_ne (h'.1 _ h))]
      exact aget_of_mem h'.2 h
theorem aget_ains_same : ∀ {l : List (Key × α)}, (∀ p ∈ l, p.1 ≠ k) → aget k (ains k x l) = some x
  | [], _ => by simp [ains, aget]
  | y :: r, h => by
    unfold ains; split
    · simp [aget]
    · have := h y (by simp); simp [aget, this]; exact aget_ains_same fun p hp => h p (by simp [hp])
theorem aget_ains_other (hk : k ≠ k') : ∀ {l : List (Key × α)}, aget k' (ains k x l) = aget k' l
  | [] => by simp [ains, aget, hk]
  | y :: r => by
    unfold ains; split
    · simp [aget, hk]
    · simp only [aget]; split
      · rfl
      · exact aget_ains_other hk
theorem aget_adel_other (hk : k ≠ k') : ∀ {l : List (Key × α)}, aget k' (adel k l) = aget k' l
  | [] => rfl
  | y :: r => by
    by_cases e : y.1 = k
    · have : y.1 ≠ k' := fun e' => hk (e ▸ e')
      simp [adel, e, aget, hk]
      exact aget_adel_other hk (l := r)
    · simp [adel, e, aget]
      split
      · rfl
      · exact aget_adel_other hk (l := r)
theorem aget_adel_same : aget k (adel k l) = none := aget_none.2 fun p hp => (mem_adel.1 hp).2
theorem aget_aput_same : aget k (aput k x l) = some x := aget_ains_same fun p hp => (mem_adel.1 hp).2
theorem aget_aput_other (hk : k ≠ k') : aget k' (aput k x l) = aget k' l := by rw [aput, aget_ains_other hk, aget_adel_other hk]
theorem adel_id (h : aget k l = none) : adel k l = l := by
  rw [aget_none] at h
  exact List.filter_eq_self.2 fun p hp => by simpa using h p hp

theorem amap_ains (f : α → β) : ∀ {l : List (Key × α)}, amap f (ains k x l) = ains k (f x) (amap f l)
  | [] => rfl
  | y :: r => by
    unfold ains amap
    simp only [List.map_cons]
    split
    · rfl
    · simp only [List.map_cons]; rw [show List.map (fun p : Key × α => (p.1, f p.2)) (ains k x r) = ains k (f x) (amap f r) from amap_ains f]; rfl
theorem amap_adel (f : α → β) : amap f (adel k l) = adel k (amap f l) := by
  simp [amap, adel, List.filter_map, Function.comp_def]
theorem amap_aput (f : α → β) : amap f (aput k x l) = aput k (f x) (amap f l) := by rw [aput, amap_ains, amap_adel]; rfl
theorem aget_amap (f : α → β) : ∀ {l : List (Key × α)}, aget k (amap f l) = (aget k l).map f
  | [] => rfl
  | y :: r => by
    simp only [amap, List.map_cons, aget]
    split
    · rfl
    · exact aget_amap f (l := r)
theorem Rising.amap (f : α → β) (h : Rising l) : Rising (amap f l) := List.pairwise_map.2 h

/-- A sum over all entries. -/
def asum (g : α → Nat) (l : List (Key × α)) : Nat := (l.map fun p => g p.2).sum
theorem asum_ains (g : α → Nat) : ∀ {l : List (Key × α)}, asum g (ains k x l) = g x + asum g l
  | [] => by simp [ains, asum]
  | y :: r => by
    unfold ains; split
    · simp [asum]
    · have := asum_ains g (l := r)
      simp only [asum, List.map_cons, List.sum_cons] at this ⊢
      omega
theorem asum_adel (g : α → Nat) : ∀ {l : List (Key × α)}, Rising l → asum g (adel k l) + (match aget k l with | some x => g x | none => 0) = asum g l
  | [], _ => rfl
  | y :: r, h => by
    have h' := List.pairwise_cons.1 h
    by_cases e : y.1 = k
    · have hn : aget k r = none := aget_none.2 fun p hp => fun e2 => before_ne (h'.1 p hp) (e.trans e2.symm)
      have hd : adel k (y :: r) = r := by
        have : adel k (y :: r) = adel k r := by simp [adel, e]
        rw [this, adel_id hn]
      rw [hd]
      simp [aget, e, asum]
      omega
    · have := asum_adel g h'.2
      have hd : adel k (y :: r) = y :: adel k r := by simp [adel, e]
      rw [hd]
      simp only [aget, beq_iff_eq, e, if_false, asum, List.map_cons, List.sum_cons] at this ⊢
      omega
theorem asum_aput (g : α → Nat) (h : Rising l) : asum g (aput k x l) + (match aget k l with | some x => g x | none => 0) = g x + asum g l := by
  rw [aput, asum_ains]
  have := asum_adel (k := k) g h
  omega
theorem sum_ge {n : Nat} : ∀ {l : List Nat}, n ∈ l → n ≤ l.sum
  | [], h => by simp at h
  | a :: r, h => by
    simp only [List.sum_cons]
    rcases List.mem_cons.1 h with e | e
    · omega
    · have := sum_ge e; omega
theorem asum_le (g : α → Nat) (h : (k, x) ∈ l) : g x ≤ asum g l := sum_ge (List.mem_map.2 ⟨(k, x), h, rfl⟩)
theorem asum_amap (f : α → β) (g : β → Nat) : asum g (amap f l) = asum (fun x => g (f x)) l := by simp [asum, amap, Function.comp_def]
theorem asum_bound (g : α → Nat) (B : Nat) : ∀ {l : List (Key × α)}, (∀ p ∈ l, g p.2 ≤ B) → asum g l ≤ l.length * B
  | [], _ => by simp [asum]
  | y :: r, h => by
    have := asum_bound g B (l := r) fun p hp => h p (by simp [hp])
    have := h y (by simp)
    simp only [asum, List.map_cons, List.sum_cons, List.length_cons, Nat.add_mul, Nat.one_mul] at *
    omega
end
end Go.Proofs.YtdnhoicfolkbnaaGreat

/- Small laws of worlds: what a call may touch; blocks behind a store, behind a new block. They speak of no program. -/
namespace Go.Proofs.YtdnhoicfolkbnaaGreat
open Go.RowKit
set_option linter.unusedVariables false

/-- w' is w but for the blocks of S, and for new ones. -/
structure Touch (S : Nat → Prop) (w w' : World) : Prop where
  os : w'.os = w.os
  tape : w'.tape = w.tape
  output : w'.output = w.output
  size : w.heap.size ≤ w'.heap.size
  block : ∀ k, k < w.heap.size → ¬ S k → w'.heap[k]? = w.heap[k]?

theorem Touch.refl (S : Nat → Prop) (w : World) : Touch S w w := ⟨rfl, rfl, rfl, Nat.le_refl _, fun _ _ _ => rfl⟩
theorem Touch.trans {S : Nat → Prop} {a b c : World} (h : Touch S a b) (k : Touch S b c) : Touch S a c :=
  ⟨k.os.trans h.os, k.tape.trans h.tape, k.output.trans h.output, Nat.le_trans h.size k.size, fun i hi hs => (k.block i (Nat.lt_of_lt_of_le hi h.size) hs).trans (h.block i hi hs)⟩
theorem Touch.mono {S T : Nat → Prop} {a b : World} (h : Touch S a b) (hs : ∀ k, k < a.heap.size → S k → T k) : Touch T a b :=
  ⟨h.os, h.tape, h.output, h.size, fun k hk ht => h.block k hk fun x => ht (hs k hk x)⟩
/-- Two calls behind one another: what the second touches was touched, or may be, or is new. -/
theorem Touch.then {S T : Nat → Prop} {a b c : World} (h : Touch S a b) (k : Touch T b c) (hs : ∀ k, k < a.heap.size → T k → S k) : Touch S a c :=
  ⟨k.os.trans h.os, k.tape.trans h.tape, k.output.trans h.output, Nat.le_trans h.size k.size, fun i hi hn => (k.block i (Nat.lt_of_lt_of_le hi h.size) fun x => hn (hs i hi x)).trans (h.block i hi hn)⟩
theorem Touch.alloc {S : Nat → Prop} {a b : World} (h : Touch S a b) (o : Obj) : Touch S a (b.alloc o) :=
  ⟨h.os, h.tape, h.output, Nat.le_trans h.size (by simp), fun i hi hn => (Below.heap_alloc b o i (Nat.lt_of_lt_of_le hi h.size)).trans (h.block i hi hn)⟩
theorem heap_setCell_other (w : World) (a : Addr) (v : Value) (k : Nat) (h : a.block ≠ k) : (w.setCell a v).heap[k]? = w.heap[k]? := by
  simp [World.setCell, Array.getElem?_modify, h]
theorem heap_setCell_same (w : World) (p i : Nat) (v : Value) {c : Array Value} {t : TypeId} {fr : Nat × Nat} (h : w.heap[p]? = some (.cells c t fr)) :
    (w.setCell ⟨p, i, none⟩ v).heap[p]? = some (.cells (c.setIfInBounds i v) t fr) := by
  simp [World.setCell, Array.getElem?_modify, h]
theorem size_setCell (w : World) (a : Addr) (v : Value) : (w.setCell a v).heap.size = w.heap.size := by simp [World.setCell]
theorem Touch.setCell {S : Nat → Prop} {a b : World} (h : Touch S a b) (x : Addr) (v : Value) (hx : x.block < a.heap.size → S x.block) : Touch S a (b.setCell x v) :=
  ⟨h.os, h.tape, h.output, by rw [size_setCell]; exact h.size, fun i hi hn => (heap_setCell_other b x v i fun e => hn (e ▸ hx (e ▸ hi))).trans (h.block i hi hn)⟩
theorem Touch.drew {S : Nat → Prop} {a b : World} (h : Touch S a b) : Touch S a b.drew := ⟨h.os, h.tape, h.output, h.size, h.block⟩
theorem Touch.cell {S : Nat → Prop} {w w' : World} (h : Touch S w w') {b : Nat} (hb : b < w.heap.size) (hs : ¬ S b) (o : Nat) : w'.cell? ⟨b, o, none⟩ = w.cell? ⟨b, o, none⟩ :=
  World.cell?_of_block (a := ⟨b, o, none⟩) (h.block b hb hs)
theorem Touch.below {S : Nat → Prop} {B : Nat} {w w' : World} (h : Touch S w w') (hB : B ≤ w.heap.size) (hs : ∀ k, k < B → ¬ S k) : Below B w w' :=
  ⟨h.os, h.tape, h.output, h.size, fun k hk => h.block k (Nat.lt_of_lt_of_le hk hB) (hs k hk)⟩
theorem Touch.grown {S : Nat → Prop} {a b c : World} {r : Option Nat} (h : Touch S a b) (k : b.grownBy c r) (hr : ∀ i, r = some i → i < a.heap.size → S i) : Touch S a c :=
  ⟨k.os.trans h.os, k.tape.trans h.tape, k.output.trans h.output, Nat.le_trans h.size k.size, fun i hi hn => (k.block i (Nat.lt_of_lt_of_le hi h.size) fun e => hn (hr i e.symm hi)).trans (h.block i hi hn)⟩

theorem cell_of_block {w : World} {p i : Nat} {c : Array Value} {t : TypeId} {fr : Nat × Nat} (h : w.heap[p]? = some (.cells c t fr)) : w.cell? ⟨p, i, none⟩ = c[i]? := by
  simp [World.cell?, h]
theorem free_of_block {w : World} {p i : Nat} {c : Array Value} {t : TypeId} (h : w.heap[p]? = some (.cells c t (0, 0))) : w.frozen? ⟨p, i, none⟩ = false := by
  simp [World.frozen?, h]
theorem lt_of_heap {w : World} {p : Nat} {o : Obj} (h : w.heap[p]? = some o) : p < w.heap.size := by
  exact (Array.getElem?_eq_some_iff.1 h).1

end Go.Proofs.YtdnhoicfolkbnaaGreat

/- An operation: its fields, as a value, as a block (OpM's first part alone, for seats whose road has no package ops). -/
namespace Go.Proofs.YtdnhoicfolkbnaaGreat
open Go.RowKit
set_option linter.unusedVariables false
set_option maxRecDepth 100000

structure O where
  c : Int
  k : Int
  kind : Int
  st : Int
  lc : Int
  lk : Int
  rc : Int
  rk : Int
  tx : ByteArray
  vk : Int
  vn : Int
  vf : Nat
  vs : ByteArray
  ky : ByteArray
  pc : Int
  pk : Int
  fc : Int
  fk : Int
  fa : Bool
  tc : Int
  tk : Int
  ta : Bool
abbrev O.vals (o : O) : Array Value := #[.int .u64 o.c, .int .u64 o.k, .int .i64 o.kind, .int .u64 o.st, .int .u64 o.lc, .int .u64 o.lk, .int .u64 o.rc, .int .u64 o.rk, .string o.tx, .int .i64 o.vk, .int .i64 o.vn, .float .f64 o.vf, .string o.vs, .string o.ky, .int .u64 o.pc, .int .u64 o.pk, .int .u64 o.fc, .int .u64 o.fk, .bool o.fa, .int .u64 o.tc, .int .u64 o.tk, .bool o.ta]
abbrev O.val (o : O) : Value := .agg o.vals
abbrev opO (o : O) : Obj := .cells o.vals 31
/-- What is so of every operation that comes in. -/
structure O.fits (o : O) : Prop where
  c0 : 0 ≤ o.c ∧ o.c < 18446744073709551616
  k0 : 0 ≤ o.k ∧ o.k < 18446744073709551616
  kind : -9223372036854775808 ≤ o.kind ∧ o.kind < 9223372036854775808
  st : 0 ≤ o.st ∧ o.st < 18446744073709551616
  lc : 0 ≤ o.lc ∧ o.lc < 18446744073709551616
  lk : 0 ≤ o.lk ∧ o.lk < 18446744073709551616
  rc : 0 ≤ o.rc ∧ o.rc < 18446744073709551616
  rk : 0 ≤ o.rk ∧ o.rk < 18446744073709551616
  pc : 0 ≤ o.pc ∧ o.pc < 18446744073709551616
  pk : 0 ≤ o.pk ∧ o.pk < 18446744073709551616
  fc : 0 ≤ o.fc ∧ o.fc < 18446744073709551616
  fk : 0 ≤ o.fk ∧ o.fk < 18446744073709551616
  tc : 0 ≤ o.tc ∧ o.tc < 18446744073709551616
  tk : 0 ≤ o.tk ∧ o.tk < 18446744073709551616
  vk : -9223372036854775808 ≤ o.vk ∧ o.vk < 9223372036854775808
  vn : -9223372036854775808 ≤ o.vn ∧ o.vn < 9223372036854775808
  vf : o.vf < 18446744073709551616
end Go.Proofs.YtdnhoicfolkbnaaGreat

/- Package seq's rows of things in memory: what lies where, and what one store leaves. -/
namespace Go.Proofs.YtdnhoicfolkbnaaGreat
open Go.RowKit
set_option linter.unusedVariables false
set_option linter.unusedSimpArgs false
set_option maxRecDepth 100000

/-- A thing: what it hangs on, what hangs on its sides, how long it is, and with all below it. -/
structure Th where
  up : Nat
  d0 : Nat
  d1 : Nat
  long : Int
  whole : Int
abbrev iV (n : Int) : Value := .int .i64 n
def cellH (t : Th) : List Value := [iV t.up, iV t.d0, iV t.d1, iV t.long, iV t.whole]
def cellsH (l : List Th) : List Value := l.flatMap cellH
theorem cellsH_cons (t : Th) (l : List Th) : cellsH (t :: l) = iV t.up :: iV t.d0 :: iV t.d1 :: iV t.long :: iV t.whole :: cellsH l := rfl
theorem cellsH_append (a b : List Th) : cellsH (a ++ b) = cellsH a ++ cellsH b := by simp [cellsH]
theorem cellsH_len (l : List Th) : (cellsH l).length = l.length * 5 := by
  induction l with
  | nil => rfl
  | cons f r ih => rw [cellsH_cons]; simp only [List.length_cons, ih]; omega
theorem cellsH_get : ∀ (l : List Th) (j : Nat) (h : j < l.length), (cellsH l)[j * 5]? = some (iV l[j].up) ∧ (cellsH l)[j * 5 + 1]? = some (iV l[j].d0) ∧ (cellsH l)[j * 5 + 2]? = some (iV l[j].d1) ∧ (cellsH l)[j * 5 + 3]? = some (iV l[j].long) ∧ (cellsH l)[j * 5 + 4]? = some (iV l[j].whole)
  | f :: r, 0, _ => ⟨rfl, rfl, rfl, rfl, rfl⟩
  | f :: r, j + 1, h => by
    have ih := cellsH_get r j (by simpa using h)
    rw [cellsH_cons, show (j + 1) * 5 = j * 5 + 5 from by omega]
    exact ih
/-- One cell of a thing laid anew. -/
def Th.put (t : Th) : Nat → Int → Th
  | 0, y => { t with up := y.toNat }
  | 1, y => { t with d0 := y.toNat }
  | 2, y => { t with d1 := y.toNat }
  | 3, y => { t with long := y }
  | _, y => { t with whole := y }
theorem cellH_put (t : Th) (f : Nat) (hf : f < 5) (y : Int) (hy : 0 ≤ y ∨ 3 ≤ f) : (cellH t).set f (iV y) = cellH (t.put f y) := by
  match f, hf with
  | 0, _ => have e : ((y.toNat : Nat) : Int) = y := by omega
            simp [cellH, Th.put, e]
  | 1, _ => have e : ((y.toNat : Nat) : Int) = y := by omega
            simp [cellH, Th.put, e]
  | 2, _ => have e : ((y.toNat : Nat) : Int) = y := by omega
            simp [cellH, Th.put, e]
  | 3, _ => rfl
  | 4, _ => rfl
theorem cellsH_put (f : Nat) (hf : f < 5) (y : Int) (hy : 0 ≤ y ∨ 3 ≤ f) : ∀ (l : List Th) (j : Nat) (h : j < l.length), (cellsH l).set (j * 5 + f) (iV y) = cellsH (l.set j (l[j].put f y))
  | t :: l, 0, _ => by
    show (cellH t ++ cellsH l).set (0 * 5 + f) (iV y) = cellH (t.put f y) ++ cellsH l
    rw [Nat.zero_mul, Nat.zero_add, List.set_append_left _ _ (by show f < 5; omega), cellH_put t f hf y hy]
  | t :: l, j + 1, h => by
    have hj : j < l.length := by simpa using h
    have ih := cellsH_put f hf y hy l j hj
    show (cellH t ++ cellsH l).set ((j + 1) * 5 + f) (iV y) = cellH t ++ cellsH (l.set j (l[j].put f y))
    rw [List.set_append_right _ _ (by show 5 ≤ _; omega), show (j + 1) * 5 + f - (cellH t).length = j * 5 + f from by show (j + 1) * 5 + f - 5 = _; omega, ih]
/-- A row of things: its slice lies in the cell k of the block b, its things in the block g. -/
structure Things (w : World) (b k g cap : Nat) (L : List Th) : Prop where
  cell : w.cell? ⟨b, k, none⟩ = some (.slice (some ⟨g, 0, none⟩) L.length cap)
  ne : b ≠ g
  row : ∃ cur, w.heap[g]? = some (.cells cur 146 (0, 0)) ∧ cur.size = cap * 5 ∧ L.length ≤ cap ∧ cap ≤ 9223372036854775807 ∧ cur.toList.take (L.length * 5) = cellsH L
theorem Things.at {w : World} {b k g cap : Nat} {L : List Th} (h : Things w b k g cap L) (i : Nat) (hi : i < L.length) (f : Nat) (v : Value) (hv : (cellsH L)[i * 5 + f]? = some v) (hf : f < 5) : w.cell? ⟨g, i * 5 + f, none⟩ = some v := by
  obtain ⟨cur, hg, h1, h2, _, h3⟩ := h.row
  rw [cell_of_block hg]
  have e : (cur.toList.take (L.length * 5))[i * 5 + f]? = some v := by rw [h3]; exact hv
  rw [List.getElem?_take_of_lt (by omega)] at e
  rw [← Array.getElem?_toList]
  exact e
theorem Things.free {w : World} {b k g cap : Nat} {L : List Th} (h : Things w b k g cap L) (j : Nat) : w.frozen? ⟨g, j, none⟩ = false := by
  obtain ⟨cur, hg, _⟩ := h.row
  exact free_of_block hg
theorem Things.lt {w : World} {b k g cap : Nat} {L : List Th} (h : Things w b k g cap L) : g < w.heap.size := by
  obtain ⟨cur, hg, _⟩ := h.row
  exact lt_of_heap hg
/-- What an index of a thing tells. -/
structure ThAt (w : World) (g i : Nat) (t : Th) : Prop where
  c0 : w.cell? ⟨g, i * 5, none⟩ = some (iV t.up)
  c1 : w.cell? ⟨g, i * 5 + 1, none⟩ = some (iV t.d0)
  c2 : w.cell? ⟨g, i * 5 + 2, none⟩ = some (iV t.d1)
  c3 : w.cell? ⟨g, i * 5 + 3, none⟩ = some (iV t.long)
  c4 : w.cell? ⟨g, i * 5 + 4, none⟩ = some (iV t.whole)
theorem Things.th {w : World} {b k g cap : Nat} {L : List Th} (h : Things w b k g cap L) (i : Nat) (hi : i < L.length) : ThAt w g i L[i] := by
  obtain ⟨g0, g1, g2, g3, g4⟩ := cellsH_get L i hi
  exact ⟨h.at i hi 0 _ g0 (by omega), h.at i hi 1 _ g1 (by omega), h.at i hi 2 _ g2 (by omega), h.at i hi 3 _ g3 (by omega), h.at i hi 4 _ g4 (by omega)⟩
/-- A store into one cell of a thing. -/
theorem Things.put {w : World} {b k g cap : Nat} {L : List Th} (h : Things w b k g cap L) (i : Nat) (hi : i < L.length) (f : Nat) (hf : f < 5) (y : Int) (hy : 0 ≤ y ∨ 3 ≤ f) :
    Things (w.setCell ⟨g, i * 5 + f, none⟩ (iV y)) b k g cap (L.set i (L[i].put f y)) := by
  obtain ⟨cur, hg, h1, h2, h3, h4⟩ := h.row
  refine ⟨?_, h.ne, cur.setIfInBounds (i * 5 + f) (iV y), heap_setCell_same _ _ _ _ hg, by simpa using h1, by rw [List.length_set]; exact h2, h3, ?_⟩
  · rw [List.length_set, World.cell?_of_block (Below.heap_setCell _ _ _ _ h.ne)]
    exact h.cell
  · rw [Array.toList_setIfInBounds, List.length_set, ← cellsH_put f hf y hy L i hi, ← h4, List.take_set]
theorem Things.keep {S : Nat → Prop} {w w' : World} {b k g cap : Nat} {L : List Th} (h : Things w b k g cap L) (t : Touch S w w') (hb : ¬ S b) (hg : ¬ S g) : Things w' b k g cap L := by
  obtain ⟨cur, h0, h1⟩ := h.row
  refine ⟨?_, h.ne, cur, (t.block g (lt_of_heap h0) hg).trans h0, h1⟩
  rw [World.cell?_of_block (t.block b (World.block_lt_of_cell? _ _ h.cell) hb)]
  exact h.cell
end Go.Proofs.YtdnhoicfolkbnaaGreat

/- Package seq's row: the small functions. -/
namespace Go.Proofs.YtdnhoicfolkbnaaGreat
open Go.RowKit
set_option linter.unusedVariables false
set_option linter.unusedSimpArgs false
set_option maxRecDepth 100000

abbrev rP (b k : Nat) : Value := .pointer (some ⟨b, k, none⟩)
set_option maxHeartbeats 2000000 in
theorem top_any {w : World} {b k g cap : Nat} {L : List Th} (h : Things w b k g cap L) (h0 : 0 < L.length) : Calls Tryz.prog 107 #[rP b k] w fun e w' => e = .returned (iV L[0].d1) ∧ w' = w := by
  have hc := h.cell
  have t0 := h.th 0 h0
  have c2 : w.cell? ⟨g, 2, none⟩ = some (iV L[0].d1) := by have := t0.c2; simpa using this
  have l0 : (0 : Int) < (L.length : Int) := by omega
  generalize L[0] = t at *
  clear t0 h
  go_enter Tryz.func107, Tryz.ntmps107
  go_wp2_with fail
  go_ret
  exact ⟨rfl, rfl⟩
set_option maxHeartbeats 2000000 in
theorem lengthOf_any {w : World} {b k g cap : Nat} {L : List Th} (h : Things w b k g cap L) (i : Nat) (hi : i < L.length) : Calls Tryz.prog 68 #[rP b k, iV (i : Int)] w fun e w' => e = .returned (iV L[i].long) ∧ w' = w := by
  have hc := h.cell
  have c3 := (h.th i hi).c3
  have l0 : (i : Int) < (L.length : Int) := by omega
  have l1 : (0 : Int) ≤ (i : Int) := by omega
  generalize L[i] = t at *
  clear h
  go_enter Tryz.func68, Tryz.ntmps68
  go_wp2_with fail
  go_ret
  exact ⟨rfl, rfl⟩
set_option maxHeartbeats 4000000 in
theorem length_any {w : World} {b k g cap : Nat} {L : List Th} (h : Things w b k g cap L) (h0 : 0 < L.length) (hr : L[0].d1 < L.length) : Calls Tryz.prog 65 #[rP b k] w fun e w' => e = .returned (iV L[L[0].d1].whole) ∧ Touch (fun _ => False) w w' := by
  have HT : Hid (∀ W, Things W b k g cap L → Calls Tryz.prog 107 #[rP b k] W fun e w' => e = .returned (iV L[0].d1) ∧ w' = W) := fun W hW => top_any hW h0
  have hc := h.cell
  have c4 := (h.th _ hr).c4
  have l0 : (L[0].d1 : Int) < (L.length : Int) := by omega
  have l1 : (0 : Int) ≤ (L[0].d1 : Int) := by omega
  have HH : Hid (Things w.drew b k g cap L) := h.keep (S := fun _ => False) (Touch.refl _ _).drew id id
  generalize L[L[0].d1] = t at *
  generalize L[0].d1 = i at *
  clear h
  go_enter Tryz.func65, Tryz.ntmps65
  go_upto_region 1 with fail
  go_region_with (go_at_call 107; (with_reducible refine (HT.out _ HH.out).mono ?_); rintro e w' ⟨rfl, rfl⟩)
  all_goals (go_wp2_with fail; go_ret; exact ⟨rfl, (Touch.refl _ _).drew⟩)
set_option maxHeartbeats 4000000 in
theorem side_any {w : World} {b k g cap : Nat} {L : List Th} (h : Things w b k g cap L) (i : Nat) (hi : i < L.length) (hu : L[i].up < L.length) : Calls Tryz.prog 110 #[rP b k, iV (i : Int)] w fun e w' => e = .returned (iV (if L[L[i].up].d1 = i then 1 else 0)) ∧ Touch (fun _ => False) w w' := by
  have hc := h.cell
  have c0 := (h.th i hi).c0
  have c2 := (h.th _ hu).c2
  have l0 : (i : Int) < (L.length : Int) := by omega
  have l1 : (0 : Int) ≤ (i : Int) := by omega
  have l2 : (L[i].up : Int) < (L.length : Int) := by omega
  have l3 : (0 : Int) ≤ (L[i].up : Int) := by omega
  generalize L[L[i].up] = t at *
  generalize L[i].up = u at *
  clear h
  go_enter Tryz.func110, Tryz.ntmps110
  by_cases hd : t.d1 = i
  · have e1 : ((t.d1 : Int) == (i : Int)) = true := by rw [hd]; simp
    rw [if_pos hd]
    clear hd
    go_upto_region 1 with fail
    go_quiet (fail)
    go_wp2_with fail
    go_ret
    exact ⟨rfl, ⟨rfl, rfl, rfl, Nat.le_refl _, fun _ _ _ => rfl⟩⟩
  · have e1 : ((t.d1 : Int) == (i : Int)) = false := by simp; omega
    rw [if_neg hd]
    clear hd
    go_upto_region 1 with fail
    go_quiet (fail)
    go_wp2_with fail
    go_ret
    exact ⟨rfl, ⟨rfl, rfl, rfl, Nat.le_refl _, fun _ _ _ => rfl⟩⟩
end Go.Proofs.YtdnhoicfolkbnaaGreat

/- Package seq's row: what hangs where, counted anew. -/
namespace Go.Proofs.YtdnhoicfolkbnaaGreat
open Go.RowKit
set_option linter.unusedVariables false
set_option linter.unusedSimpArgs false
set_option maxRecDepth 100000

def gt (L : List Th) (i : Nat) : Th := (L[i]?).getD ⟨0, 0, 0, 0, 0⟩
theorem gt_of {L : List Th} {i : Nat} (h : i < L.length) : gt L i = L[i] := by unfold gt; rw [List.getElem?_eq_getElem h]; rfl
/-- One cell laid anew. -/
def st (L : List Th) (i f : Nat) (y : Int) : List Th := L.set i ((gt L i).put f y)
theorem st_len (L : List Th) (i f : Nat) (y : Int) : (st L i f y).length = L.length := List.length_set
theorem gt_st {L : List Th} {i j f : Nat} {y : Int} (h : i < L.length) : gt (st L i f y) j = if j = i then (gt L i).put f y else gt L j := by
  unfold st
  by_cases e : j = i
  · subst e
    rw [if_pos rfl]
    unfold gt
    rw [List.getElem?_set_self h]
    rfl
  · rw [if_neg e]
    show ((L.set i _)[j]?).getD _ = _
    rw [List.getElem?_set_ne (by omega)]
    rfl
theorem Things.st {w : World} {b k g cap : Nat} {L : List Th} (h : Things w b k g cap L) (i : Nat) (hi : i < L.length) (f : Nat) (hf : f < 5) (y : Int) (hy : 0 ≤ y ∨ 3 ≤ f) : Things (w.setCell ⟨g, i * 5 + f, none⟩ (iV y)) b k g cap (Go.Proofs.YtdnhoicfolkbnaaGreat.st L i f y) := by
  unfold Go.Proofs.YtdnhoicfolkbnaaGreat.st
  rw [gt_of hi]
  exact h.put i hi f hf y hy
theorem Things.cellAt {w : World} {b k g cap : Nat} {L : List Th} (h : Things w b k g cap L) (i : Nat) (hi : i < L.length) (f : Nat) (hf : f < 5) : ∃ v, w.cell? ⟨g, i * 5 + f, none⟩ = some v := by
  have hl := cellsH_len L
  have : i * 5 + f < (cellsH L).length := by omega
  exact ⟨_, h.at i hi f _ (List.getElem?_eq_getElem this) hf⟩
theorem Touch.cellG {w w' : World} {g : Nat} (t : Touch (· = g) w w') (j : Nat) (y : Value) : Touch (· = g) w (w'.setCell ⟨g, j, none⟩ y) := t.setCell _ _ (fun _ => rfl)
/-- i hung on a side of u. -/
def hangL (L : List Th) (u s i : Nat) : List Th := if i = 0 then st L u (1 + s) (i : Int) else st (st L u (1 + s) (i : Int)) i 0 (u : Int)
theorem hangL_len (L : List Th) (u s i : Nat) : (hangL L u s i).length = L.length := by
  unfold hangL
  split <;> simp only [st_len]
set_option maxHeartbeats 4000000 in
theorem hang_any {w : World} {b k g cap : Nat} {L : List Th} (h : Things w b k g cap L) (u s i : Nat) (hu : u < L.length) (hs : s < 2) (hi : i < L.length) : Calls Tryz.prog 151 #[rP b k, iV (u : Int), iV (s : Int), iV (i : Int)] w fun e w' => e = .returned (.tuple #[]) ∧ Things w' b k g cap (hangL L u s i) ∧ Touch (· = g) w w' := by
  have hc := h.cell
  obtain ⟨v0, c0⟩ := h.cellAt u hu (1 + s) (by omega)
  have c0' : w.cell? ⟨g, u * 5 + 1 + s, none⟩ = some v0 := by rw [Nat.add_assoc]; exact c0
  have z0 : w.frozen? ⟨g, u * 5 + 1 + s, none⟩ = false := h.free _
  have l0 : (u : Int) < (L.length : Int) := by omega
  have l1 : (0 : Int) ≤ (u : Int) := by omega
  have l2 : (s : Int) < 2 := by omega
  have l3 : (0 : Int) ≤ (s : Int) := by omega
  have l4 : (i : Int) < (L.length : Int) := by omega
  have l5 : (0 : Int) ≤ (i : Int) := by omega
  obtain ⟨W1, hW1⟩ : ∃ W, Hid (W = w.setCell ⟨g, u * 5 + 1 + s, none⟩ (iV (i : Int))) := ⟨_, Eq.refl _⟩
  have H1 : Hid (Things W1 b k g cap (st L u (1 + s) (i : Int)) ∧ Touch (· = g) w W1) := by
    rw [hW1.out, Nat.add_assoc]
    exact ⟨h.st u hu (1 + s) (by omega) _ (.inl l5), (Touch.refl _ _).cellG _ _⟩
  clear c0 h
  go_enter Tryz.func151, Tryz.ntmps151
  go_upto_region 1 with fail
  rw [← hW1.out]
  clear hW1 c0' z0 hc
  by_cases hi0 : i = 0
  · have e0 : ((i : Int) != 0) = false := by simp [hi0]
    have HF : Hid (Things W1 b k g cap (hangL L u s i) ∧ Touch (· = g) w W1) := by
      unfold hangL
      rw [if_pos hi0]
      exact H1.out
    clear hi0
    go_wp2_with fail
    go_end0
    exact ⟨rfl, HF.out⟩
  · have e0 : ((i : Int) != 0) = true := by simp [hi0]
    have hl1 : (st L u (1 + s) (i : Int)).length = L.length := st_len _ _ _ _
    have hc := H1.out.1.cell
    rw [hl1] at hc
    obtain ⟨v1, c1⟩ := H1.out.1.cellAt i (by omega) 0 (by omega)
    have z1 : W1.frozen? ⟨g, i * 5, none⟩ = false := H1.out.1.free _
    have c1' : W1.cell? ⟨g, i * 5, none⟩ = some v1 := c1
    have HF : Hid (Things (W1.setCell ⟨g, i * 5, none⟩ (iV (u : Int))) b k g cap (hangL L u s i) ∧ Touch (· = g) w (W1.setCell ⟨g, i * 5, none⟩ (iV (u : Int)))) := by
      unfold hangL
      rw [if_neg hi0]
      exact ⟨H1.out.1.st i (by omega) 0 (by omega) _ (.inl l1), H1.out.2.cellG _ _⟩
    clear hi0 hl1 c1 H1
    go_wp2_with fail
    go_end0
    exact ⟨rfl, HF.out⟩
/-- Its whole counted anew. -/
def countL (L : List Th) (i : Nat) : List Th := st L i 4 ((gt L (gt L i).d0).whole + (gt L i).long + (gt L (gt L i).d1).whole)
end Go.Proofs.YtdnhoicfolkbnaaGreat

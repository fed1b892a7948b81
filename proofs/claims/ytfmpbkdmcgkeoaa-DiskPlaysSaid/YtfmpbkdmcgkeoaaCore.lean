/- A disk in memory: its four fields, its map, its files' bytes. -/
import Derived.Test.YtfmpbkdmcgkeoaaDAl
import Derived.Test.YtfmpbkdmcgkeoaaPart1
import Derived.Maps.OwnSet
namespace Go.Proofs.Ytfmpbkdmcgkeoaa
open Go.RowKit Go.Maps
set_option linter.unusedVariables false

/-- A file: the slice, its bytes, how many are synced. -/
structure Fl where
  v : Value
  bs : List UInt8
  syn : Nat
def Fl.val (f : Fl) : Value := .agg #[f.v, .int .i64 (f.syn : Int)]
def Fl.abs (f : Fl) : List UInt8 × Nat := (f.bs, f.syn)
def zeroF : Fl := ⟨.slice none 0 0, [], 0⟩
def getF (k : Key) (es : List (Key × Fl)) : Fl := (aget k es).getD zeroF
/-- How an element reads: as itself. -/
def heldR (v : Value) : Option (DataW Value × List MemPlace) := some (.held v, [])
def toD (es : List (Key × Fl)) : DataW Value := .map (es.map fun p => (.string p.1, .held p.2.val))

theorem toD_ins (k : Key) (f : Fl) : ∀ es : List (Key × Fl), DataW.insert (Lit.string k, DataW.held f.val) (es.map fun p => (Lit.string p.1, DataW.held p.2.val)) = (ains k f es).map fun p => (Lit.string p.1, DataW.held p.2.val)
  | [] => rfl
  | y :: r => by
    have ih := toD_ins k f r
    by_cases e : bytesBefore k y.1 = true
    · have e2 : (Lit.string k).before (Lit.string y.1) = true := e
      simp [ains, DataW.insert, e, e2]
    · have e2 : ¬ (Lit.string k).before (Lit.string y.1) = true := e
      simp [ains, DataW.insert, e, e2, ih]
theorem toD_fil (k : Key) (es : List (Key × Fl)) : (es.map fun p => (Lit.string p.1, DataW.held (H := Value) p.2.val)).filter (fun p => !p.1.sameKey (.string k)) = (adel k es).map fun p => (Lit.string p.1, DataW.held p.2.val) := by
  simp only [adel, List.filter_map, Function.comp_def, Lit.sameKey]
theorem toD_put (k : Key) (f : Fl) (es : List (Key × Fl)) : (toD es).put (.string k) (.held f.val) = toD (aput k f es) := by
  simp only [toD, DataW.put, toD_fil, toD_ins, aput]
theorem toD_del (k : Key) (es : List (Key × Fl)) : (toD es).del (.string k) = toD (adel k es) := by
  simp only [toD, DataW.del, toD_fil]
theorem toD_has (k : Key) : ∀ es : List (Key × Fl), Maps.has (toD es) (.string k) = (aget k es).isSome
  | [] => rfl
  | y :: r => by
    have := toD_has k r
    simp only [toD, Maps.has, List.map_cons, List.any_cons, Lit.sameKey, aget] at this ⊢
    by_cases e : y.1 = k
    · simp [e]
    · have e2 : (y.1 == k) = false := by simpa using e
      rw [e2, this]; simp
theorem toD_at (k : Key) : ∀ es : List (Key × Fl), (toD es).atKey (.string k) (.held zeroF.val) = .held (getF k es).val
  | [] => rfl
  | y :: r => by
    have := toD_at k r
    simp only [toD, DataW.atKey, List.map_cons, List.find?_cons, Lit.sameKey, getF, aget] at this ⊢
    by_cases e : y.1 = k
    · simp [e]
    · simp only [beq_iff_eq, e, if_false]
      have e2 : (y.1 == k) = false := by simpa using e
      rw [e2]; exact this
theorem toD_size (es : List (Key × Fl)) : Maps.size (toD es) = es.length := by simp [toD, Maps.size]
theorem toD_keys (es : List (Key × Fl)) : strKeys (toD es) = es.map (·.1) := by simp [toD, strKeys, strOf, Function.comp_def]

theorem lawK : Keyed Try.prog 9 := string_keyed Try.underlying9
theorem zeroFile (w : World) : (zeroValue 66).run Try.prog w = .ok zeroF.val w := by kernel_rfl

/-- A file as it may lie on a disk. -/
def Good (f : Fl) : Prop := (∃ ao cap, f.v = .slice ao f.bs.length cap) ∧ f.syn ≤ f.bs.length ∧ f.bs.length ≤ 4194304
def used (es : List (Key × Fl)) : Nat := asum (fun f => f.bs.length) es

/-- Block d is a disk whose map is block m, its files es; of their bytes nothing is said. -/
structure Core (w : World) (d m n : Nat) (es : List (Key × Fl)) (room power : Int) : Prop where
  cells : w.heap[d]? = some (.cells #[.map (some m), .int .i64 (used es : Int), .int .i64 room, .int .i64 power] 60 (0, 0))
  owns : w.ownsMap Try.prog 9 heldR m n (toD es)
  rising : Rising es
  good : ∀ p ∈ es, Good p.2
  room0 : 0 ≤ room
  room1 : room ≤ 9223372036854775807
  pow0 : -9223372036854775808 ≤ power
  pow1 : power ≤ 9223372036854775807
  keys : ∀ p ∈ es, p.1.length ≤ 281474976710656

theorem zero_good : Good zeroF := ⟨⟨none, 0, rfl⟩, Nat.le_refl _, by decide⟩
theorem Core.get {w : World} {d m n : Nat} {es : List (Key × Fl)} {room power : Int} (h : Core w d m n es room power) (k : Key) : Good (getF k es) := by
  unfold getF
  cases e : aget k es with
  | none => exact zero_good
  | some f => exact h.good _ (aget_mem e)
theorem Core.len {w : World} {d m n : Nat} {es : List (Key × Fl)} {room power : Int} (h : Core w d m n es room power) : es.length ≤ n := by
  have := h.owns.size_le
  rwa [toD_size] at this
theorem Core.used_le {w : World} {d m n : Nat} {es : List (Key × Fl)} {room power : Int} (h : Core w d m n es room power) : used es ≤ n * 4194304 := by
  refine Nat.le_trans (asum_bound _ 4194304 fun p hp => (h.good p hp).2.2) (Nat.mul_le_mul_right _ h.len)
theorem Core.ne {w : World} {d m n : Nat} {es : List (Key × Fl)} {room power : Int} (h : Core w d m n es room power) : m ≠ d := by
  rintro rfl
  obtain ⟨_, _, hb, _⟩ := h.owns
  rw [h.cells] at hb
  cases hb
theorem Core.lt {w : World} {d m n : Nat} {es : List (Key × Fl)} {room power : Int} (h : Core w d m n es room power) : d < w.heap.size := lt_of_heap h.cells
theorem Core.ltm {w : World} {d m n : Nat} {es : List (Key × Fl)} {room power : Int} (h : Core w d m n es room power) : m < w.heap.size := h.owns.lt
theorem owns_touch {S : Nat → Prop} {w w' : World} {m n : Nat} {D : DataW Value} (h : w.ownsMap Try.prog 9 heldR m n D) (t : Touch S w w') (hm : ¬ S m) : w'.ownsMap Try.prog 9 heldR m n D := by
  have hl := h.lt
  obtain ⟨es, c, hb, r⟩ := h
  exact ⟨es, c, (t.block m hl hm).trans hb, r⟩
theorem Core.touch {S : Nat → Prop} {w w' : World} {d m n : Nat} {es : List (Key × Fl)} {room power : Int} (h : Core w d m n es room power) (t : Touch S w w') (hd : ¬ S d) (hm : ¬ S m) : Core w' d m n es room power :=
  ⟨(t.block d h.lt hd).trans h.cells, owns_touch h.owns t hm, h.rising, h.good, h.room0, h.room1, h.pow0, h.pow1, h.keys⟩
theorem Core.alloc {w : World} {d m n : Nat} {es : List (Key × Fl)} {room power : Int} (h : Core w d m n es room power) (o : Obj) : Core (w.alloc o) d m n es room power :=
  h.touch ((Touch.refl (fun _ => False) w).alloc o) id id
theorem Core.mono {w : World} {d m n n' : Nat} {es : List (Key × Fl)} {room power : Int} (h : Core w d m n es room power) (hn : n ≤ n') : Core w d m n' es room power :=
  ⟨h.cells, h.owns.mono hn, h.rising, h.good, h.room0, h.room1, h.pow0, h.pow1, h.keys⟩

/-- Each file's bytes lie in a row of its own. -/
structure RowsOk (w : World) (es : List (Key × Fl)) : Prop where
  row : ∀ p ∈ es, w.ownsRow 0 5 1 p.2.v p.2.bs.length (cellsOf p.2.bs)
  apart : ∀ p ∈ es, ∀ q ∈ es, p.1 ≠ q.1 → ∀ k, p.2.v.ownBlock = some k → q.2.v.ownBlock ≠ some k

def foot (d m : Nat) (es : List (Key × Fl)) (k : Nat) : Prop := k = d ∨ k = m ∨ ∃ p ∈ es, p.2.v.ownBlock = some k

theorem row_touch {S : Nat → Prop} {w w' : World} {v : Value} {bs : List UInt8} (h : w.ownsRow 0 5 1 v bs.length (cellsOf bs)) (t : Touch S w w') (hs : ∀ k, v.ownBlock = some k → ¬ S k) : w'.ownsRow 0 5 1 v bs.length (cellsOf bs) := by
  refine ⟨h.1, ?_⟩
  rcases h.2 with h | ⟨g, cap, cur, rfl, hb, hg, r⟩
  · exact .inl h
  · exact .inr ⟨g, cap, cur, rfl, hb, (t.block g (lt_of_heap hg) (hs g rfl)).trans hg, r⟩
theorem row_lt {w : World} {v : Value} {bs : List UInt8} (h : w.ownsRow 0 5 1 v bs.length (cellsOf bs)) {k : Nat} (hk : v.ownBlock = some k) : ∃ c, w.heap[k]? = some (.cells c 5 (0, 0)) := by
  rcases h.2 with ⟨rfl, _⟩ | ⟨g, cap, cur, rfl, hb, hg, r⟩
  · simp [Value.ownBlock] at hk
  · simp only [Value.ownBlock, Option.some.injEq] at hk; subst hk; exact ⟨_, hg⟩
theorem Core.row_ne {w : World} {d m n : Nat} {es : List (Key × Fl)} {room power : Int} (h : Core w d m n es room power) {v : Value} {bs : List UInt8} (hr : w.ownsRow 0 5 1 v bs.length (cellsOf bs)) {k : Nat} (hk : v.ownBlock = some k) : k ≠ d ∧ k ≠ m := by
  obtain ⟨c, hc⟩ := row_lt hr hk
  constructor
  · rintro rfl
    rw [h.cells] at hc
    simp at hc
  · rintro rfl
    obtain ⟨_, _, hb, _⟩ := h.owns
    rw [hb] at hc
    cases hc
theorem RowsOk.touch {S : Nat → Prop} {w w' : World} {es : List (Key × Fl)} (h : RowsOk w es) (t : Touch S w w') (hs : ∀ p ∈ es, ∀ k, p.2.v.ownBlock = some k → ¬ S k) : RowsOk w' es :=
  ⟨fun p hp => row_touch (h.row p hp) t (hs p hp), h.apart⟩
theorem RowsOk.del {w : World} {es : List (Key × Fl)} (h : RowsOk w es) (k : Key) : RowsOk w (adel k es) :=
  ⟨fun p hp => h.row p (mem_adel.1 hp).1, fun p hp q hq => h.apart p (mem_adel.1 hp).1 q (mem_adel.1 hq).1⟩
theorem RowsOk.put {w : World} {es : List (Key × Fl)} {k : Key} {f : Fl} (h : RowsOk w (adel k es)) (hf : w.ownsRow 0 5 1 f.v f.bs.length (cellsOf f.bs)) (hn : ∀ p ∈ adel k es, ∀ i, f.v.ownBlock = some i → p.2.v.ownBlock ≠ some i) : RowsOk w (aput k f es) := by
  constructor
  · intro p hp
    rcases mem_ains.1 hp with rfl | hp
    · exact hf
    · exact h.row p hp
  · intro p hp q hq hne i hi
    rcases mem_ains.1 hp with rfl | hp
    · rcases mem_ains.1 hq with rfl | hq
      · exact absurd rfl hne
      · exact hn q hq i hi
    · rcases mem_ains.1 hq with rfl | hq
      · exact fun e => hn p hp i e hi
      · exact h.apart p hp q hq hne i hi
theorem RowsOk.get {w : World} {es : List (Key × Fl)} (h : RowsOk w es) (k : Key) : w.ownsRow 0 5 1 (getF k es).v (getF k es).bs.length (cellsOf (getF k es).bs) := by
  unfold getF
  cases e : aget k es with
  | none => exact World.ownsRow_nil _ _ _ _
  | some f => exact h.row _ (aget_mem e)
theorem RowsOk.get_apart {w : World} {es : List (Key × Fl)} (h : RowsOk w es) (k : Key) : ∀ p ∈ adel k es, ∀ i, (getF k es).v.ownBlock = some i → p.2.v.ownBlock ≠ some i := by
  intro p hp i
  unfold getF
  cases e : aget k es with
  | none => intro hi; simp [zeroF, Value.ownBlock] at hi
  | some f => exact h.apart _ (aget_mem e) p (mem_adel.1 hp).1 (fun e => (mem_adel.1 hp).2 e.symm) i
theorem get_foot {d m : Nat} {es : List (Key × Fl)} {k : Key} {i : Nat} (h : (getF k es).v.ownBlock = some i) : foot d m es i := by
  unfold getF at h
  cases e : aget k es with
  | none => rw [e] at h; simp [zeroF, Value.ownBlock] at h
  | some f => rw [e] at h; exact .inr (.inr ⟨_, aget_mem e, h⟩)

/-- What a disk is: its files by names, its room, its power. -/
structure St where
  fs : List (Key × (List UInt8 × Nat))
  room : Int
  power : Int

/-- The bound on how many files there are, as it is. -/
theorem Core.tight {w : World} {d m n : Nat} {es : List (Key × Fl)} {room power : Int} (h : Core w d m n es room power) : Core w d m es.length es room power := by
  refine ⟨h.cells, ?_, h.rising, h.good, h.room0, h.room1, h.pow0, h.pow1, h.keys⟩
  obtain ⟨xs, c, hb, hf, _, hD⟩ := h.owns
  refine ⟨xs, c, hb, hf, ?_, hD⟩
  have := congrArg Maps.size hD
  rw [toD_size] at this
  rw [this]
  simp [Maps.size, length_sorted]

/-- Block d is a disk in the state s; all its blocks are in F. -/
def Disk (w : World) (d : Nat) (F : Nat → Prop) (s : St) : Prop :=
  ∃ m es, Core w d m es.length es s.room s.power ∧ RowsOk w es ∧ s.fs = amap Fl.abs es ∧ (∀ k, foot d m es k → F k) ∧ ∀ k, F k → k < w.heap.size

theorem Disk.touch {S F : Nat → Prop} {w w' : World} {d : Nat} {s : St} (h : Disk w d F s) (t : Touch S w w') (hs : ∀ k, F k → ¬ S k) : Disk w' d F s := by
  obtain ⟨m, es, hC, hR, e, hf, hF⟩ := h
  exact ⟨m, es, hC.touch t (hs d (hf d (.inl rfl))) (hs m (hf m (.inr (.inl rfl)))), hR.touch t fun p hp k hk => hs k (hf k (.inr (.inr ⟨p, hp, hk⟩))), e, hf, fun k hk => Nat.lt_of_lt_of_le (hF k hk) t.size⟩
theorem Disk.lt {F : Nat → Prop} {w : World} {d : Nat} {s : St} (h : Disk w d F s) {k : Nat} (hk : F k) : k < w.heap.size := by
  obtain ⟨m, es, _, _, _, _, hF⟩ := h
  exact hF k hk

/-- Behind a call on the disk at d, whose blocks were F. -/
def DPost (d : Nat) (F : Nat → Prop) (s : St) (w w' : World) : Prop :=
  ∃ F', Disk w' d F' s ∧ Touch F w w' ∧ ∀ k, k < w.heap.size → F' k → F k

theorem DPost.refl {d : Nat} {F : Nat → Prop} {s : St} {w : World} (h : Disk w d F s) : DPost d F s w w := ⟨F, h, Touch.refl _ _, fun _ _ h => h⟩
theorem DPost.same {d : Nat} {F : Nat → Prop} {s : St} {w w' : World} (h : Disk w d F s) (t : Touch (fun _ => False) w w') : DPost d F s w w' :=
  ⟨F, h.touch t fun _ _ => id, t.mono fun _ _ h => h.elim, fun _ _ h => h⟩

/-- The disk laid anew: what its call leaves, out of its parts. -/
theorem dpost_of {d m n' : Nat} {es es' : List (Key × Fl)} {F : Nat → Prop} {w w' : World} {s : St} (hF : ∀ k, foot d m es k → F k) (hC : Core w' d m n' es' s.room s.power) (hR : RowsOk w' es') (hs : s.fs = amap Fl.abs es')
    (t : Touch (foot d m es) w w') (hf : ∀ k, k < w.heap.size → foot d m es' k → foot d m es k) : DPost d F s w w' := by
  refine ⟨fun k => k < w'.heap.size ∧ (k < w.heap.size → F k), ⟨m, es', hC.tight, hR, hs, ?_, fun k hk => hk.1⟩, t.mono fun k _ h => hF k h, fun k hk h => h.2 hk⟩
  intro k hk
  refine ⟨?_, fun hlt => hF k (hf k hlt hk)⟩
  rcases hk with rfl | rfl | ⟨p, hp, hk⟩
  · exact hC.lt
  · exact hC.ltm
  · obtain ⟨c, hc⟩ := row_lt (hR.row p hp) hk
    exact lt_of_heap hc
theorem length_amap {α β : Type} (f : α → β) (l : List (Key × α)) : (amap f l).length = l.length := by simp [amap]
end Go.Proofs.Ytfmpbkdmcgkeoaa

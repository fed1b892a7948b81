/- The library's slices.SortFunc, laid at this program. -/
import Derived.Shelf.SlSortCmp.Whole1
import Derived.Ground.SlsfProg
import Derived.Test.YtmknkecaeagmbaaGreatDoorProg
import Derived.Test.YtmknkecaeagmbaaGreatDoorPart11
import Derived.Test.YtmknkecaeagmbaaGreatDoorOpW
import Derived.Test.YtmknkecaeagmbaaGreatDoorPart6
namespace Go.Proofs
open Go.Shelf
def Tryz.sortI_ren : Go.Shelf.Ren := ⟨fun | 6 => 81 | 15 => 101 | 14 => 100 | 28 => 119 | 29 => 120 | 20 => 111 | 21 => 112 | 22 => 113 | 23 => 114 | 24 => 115 | 25 => 116 | 26 => 117 | 27 => 118 | 46 => 124 | 47 => 125 | 48 => 126 | 49 => 127 | 50 => 128 | 57 => 129 | n => n, fun | 22 => 98 | 24 => 3 | 25 => 43 | 3 => 3 | 39 => 114 | 0 => 0 | 53 => 134 | 55 => 22 | 4 => 4 | 46 => 127 | 45 => 126 | 50 => 131 | 5 => 5 | 9 => 9 | 66 => 137 | 70 => 141 | 76 => 143 | 77 => 144 | n => n, fun | n => n⟩
theorem Tryz.sortI : Go.Proofs.SlLaysF.n6 Tryz.prog Tryz.sortI_ren := {
  mixed := by kernel_rfl
  f6 := ⟨Tryz.f81.name, by decide, Tryz.func81.trans (congrArg some (by kernel_rfl))⟩
  f14 := ⟨Tryz.f100.name, by decide, Tryz.func100.trans (congrArg some (by kernel_rfl))⟩
  f15 := Tryz.func101.trans (congrArg some (by kernel_rfl))
  f20 := ⟨Tryz.f111.name, by decide, Tryz.func111.trans (congrArg some (by kernel_rfl))⟩
  f21 := ⟨Tryz.f112.name, by decide, Tryz.func112.trans (congrArg some (by kernel_rfl))⟩
  f22 := ⟨Tryz.f113.name, by decide, Tryz.func113.trans (congrArg some (by kernel_rfl))⟩
  f23 := ⟨Tryz.f114.name, by decide, Tryz.func114.trans (congrArg some (by kernel_rfl))⟩
  f24 := ⟨Tryz.f115.name, by decide, Tryz.func115.trans (congrArg some (by kernel_rfl))⟩
  f25 := ⟨Tryz.f116.name, by decide, Tryz.func116.trans (congrArg some (by kernel_rfl))⟩
  f26 := ⟨Tryz.f117.name, by decide, Tryz.func117.trans (congrArg some (by kernel_rfl))⟩
  f27 := ⟨Tryz.f118.name, by decide, Tryz.func118.trans (congrArg some (by kernel_rfl))⟩
  f28 := Tryz.func119.trans (congrArg some (by kernel_rfl))
  f29 := Tryz.func120.trans (congrArg some (by kernel_rfl))
  f46 := ⟨Tryz.f124.name, by decide, Tryz.func124.trans (congrArg some (by kernel_rfl))⟩
  f47 := Tryz.func125.trans (congrArg some (by kernel_rfl))
  f48 := Tryz.func126.trans (congrArg some (by kernel_rfl))
  f49 := ⟨Tryz.f127.name, by decide, Tryz.func127.trans (congrArg some (by kernel_rfl))⟩
  f50 := ⟨Tryz.f128.name, by decide, Tryz.func128.trans (congrArg some (by kernel_rfl))⟩
  f57 := ⟨Tryz.f129.name, by decide, Tryz.func129.trans (congrArg some (by kernel_rfl))⟩
  t0 := Tryz.underlying0
  a0 := Tryz.isAgg0
  z0 := Tryz.sizeOf0
  v0 := Tryz.zeroValue0
  t3 := Tryz.underlying3
  a3 := Tryz.isAgg3
  z3 := Tryz.sizeOf3
  v3 := Tryz.zeroValue3
  t4 := Tryz.underlying4
  a4 := Tryz.isAgg4
  z4 := Tryz.sizeOf4
  v4 := Tryz.zeroValue4
  t5 := Tryz.underlying5
  a5 := Tryz.isAgg5
  z5 := Tryz.sizeOf5
  v5 := Tryz.zeroValue5
  t9 := Tryz.underlying9
  a9 := Tryz.isAgg9
  z9 := Tryz.sizeOf9
  v9 := Tryz.zeroValue9
  t22 := Tryz.underlying98
  a22 := Tryz.isAgg98
  z22 := Tryz.sizeOf98
  v22 := Tryz.zeroValue98
  a24 := Tryz.isAgg3
  z24 := Tryz.sizeOf3
  t25 := Tryz.underlying43
  a25 := Tryz.isAgg43
  z25 := Tryz.sizeOf43
  v25 := Tryz.zeroValue43
  t39 := Tryz.underlying114
  a39 := Tryz.isAgg114
  z39 := Tryz.sizeOf114
  v39 := Tryz.zeroValue114
  t45 := Tryz.underlying126
  a45 := Tryz.isAgg126
  z45 := Tryz.sizeOf126
  v45 := Tryz.zeroValue126
  t46 := Tryz.underlying127
  a46 := Tryz.isAgg127
  z46 := Tryz.sizeOf127
  v46 := Tryz.zeroValue127
  t50 := Tryz.underlying131
  a50 := Tryz.isAgg131
  z50 := Tryz.sizeOf131
  v50 := Tryz.zeroValue131
  t53 := Tryz.underlying134
  a53 := Tryz.isAgg134
  z53 := Tryz.sizeOf134
  v53 := Tryz.zeroValue134
  t55 := Tryz.underlying22
  a55 := Tryz.isAgg22
  z55 := Tryz.sizeOf22
  v55 := Tryz.zeroValue22
  t66 := Tryz.underlying137
  a66 := Tryz.isAgg137
  z66 := Tryz.sizeOf137
  v66 := Tryz.zeroValue137
  t70 := Tryz.underlying141
  a70 := Tryz.isAgg141
  z70 := Tryz.sizeOf141
  v70 := Tryz.zeroValue141
  t76 := Tryz.underlying143
  a76 := Tryz.isAgg143
  z76 := Tryz.sizeOf143
  v76 := Tryz.zeroValue143
  t77 := Tryz.underlying144
  a77 := Tryz.isAgg144
  z77 := Tryz.sizeOf144
  v77 := Tryz.zeroValue144 }
end Go.Proofs

/- The contract of slices.SortFunc of places, as ops.inOrder calls it. -/
namespace Go.Proofs.YtmknkecaeagmbaaGreatDoor
open Go.RowKit Go.Sort
set_option linter.unusedVariables false
set_option linter.unusedSimpArgs false
set_option maxRecDepth 100000

def atO (l : List O) (i : Nat) : O := l.getD i zeroO
theorem atO_of {l : List O} {i : Nat} (h : i < l.length) : atO l i = l[i] := by unfold atO; rw [List.getD_eq_getElem?_getD, List.getElem?_eq_getElem h]; rfl
/-- By ids. -/
def idLt (a b : O) : Prop := a.c < b.c ∨ (a.c = b.c ∧ a.k < b.k)
/-- By ids, then as they stood. -/
def plLt (l : List O) (i j : Nat) : Prop := idLt (atO l i) (atO l j) ∨ ((atO l i).c = (atO l j).c ∧ (atO l i).k = (atO l j).k ∧ i < j)
def cmpL (l : List O) (n : Nat) (x y : Fin n) : Int := cmpP (atO l x.val).c (atO l x.val).k (atO l y.val).c (atO l y.val).k (x.val : Int) (y.val : Int)
theorem cmpL_lt (l : List O) (n : Nat) (x y : Fin n) : ltOf (cmpL l n) x y = true ↔ plLt l x.val y.val := by
  unfold ltOf
  rw [decide_eq_true_iff]
  unfold cmpL cmpP orI cmpI plLt idLt lessI cmpU
  generalize (atO l x.val).c = a
  generalize (atO l x.val).k = b
  generalize (atO l y.val).c = c
  generalize (atO l y.val).k = d
  obtain ⟨i, hi⟩ := x
  obtain ⟨j, hj⟩ := y
  simp only
  have e : ((i : Int) < (j : Int)) ↔ i < j := by omega
  have e' : ((j : Int) < (i : Int)) ↔ j < i := by omega
  by_cases h1 : a = c
  · subst h1
    by_cases h2 : b < d
    · simp [h2]
    · by_cases h3 : d < b
      · have h4 : ¬ b = d := by omega
        simp [h2, h3, h4]
      · obtain rfl : b = d := by omega
        by_cases h5 : i < j
        · simp [h2, h5]
        · by_cases h6 : j < i
          · simp [h2, h5, h6]
          · simp [h2, h5, h6]
  · have h1' : ¬ c = a := fun h => h1 h.symm
    by_cases h2 : a < c
    · simp [h1, h2]
    · have h3 : c < a := by omega
      simp [h1, h1', h2, h3]
theorem cmpL_nlt (l : List O) (n : Nat) (x y : Fin n) : ltOf (cmpL l n) x y = false ↔ ¬ plLt l x.val y.val := by
  rw [Bool.eq_false_iff, ne_eq, cmpL_lt]
theorem cmpL_swo (l : List O) (n : Nat) : SWO (ltOf (cmpL l n)) where
  irrefl x := by rw [cmpL_nlt]; unfold plLt idLt; omega
  trans x y z h1 h2 := by rw [cmpL_lt] at *; unfold plLt idLt at *; omega
  ntrans x y z h1 h2 := by rw [cmpL_nlt] at *; unfold plLt idLt at *; omega
/-- Places lie in a block. -/
def IntsAt (w : World) (g : Nat) (p : List Nat) : Prop := ∀ j (h : j < p.length), w.cell? ⟨g, j, none⟩ = some (.int .i64 (p[j] : Int)) ∧ w.frozen? ⟨g, j, none⟩ = false
def encF (n : Nat) (x : Fin n) : Value := .int .i64 (x.val : Int)
theorem sortPl_any (l : List O) (hne : l ≠ []) (B b o cap : Nat) (w : World) (hB : w.cell? ⟨B, 0, none⟩ = some (.slice (some ⟨b, o, none⟩) l.length cap)) (hL : ∀ j (h : j < l.length), w.rangeAt b (o + j * 22) l[j].vals.toList)
    (g gcap : Nat) (hg : IntsAt w g (List.range l.length)) (hgl : g < w.heap.size) (hgB : B ≠ g) (hgb : b ≠ g) (hl : l.length ≤ 1073741824) :
    Calls Tryz.prog 81 #[.slice (some ⟨g, 0, none⟩) l.length gcap, .func (.func 82) #[] #[.pointer (some ⟨B, 0, none⟩)]] w fun e w' => e = .returned (.tuple #[]) ∧ ∃ p : List Nat, p.Perm (List.range l.length) ∧ p.Pairwise (fun i j => ¬ plLt l j i) ∧ IntsAt w' g p ∧ Touch (· = g) w w' := by
  obtain ⟨m, hm⟩ : ∃ m, l.length = m + 1 := ⟨l.length - 1, by have := List.length_pos_iff.2 hne; omega⟩
  have eg : ∀ args w, (callFunc 82 args).run Tryz.prog w = .ok (.enter 82 args) w := enters_of Tryz.func82 (by kernel_rfl) rfl
  obtain ⟨d, hd⟩ : ∃ d : Array (Fin (m + 1)), d = (List.finRange (m + 1)).toArray := ⟨_, rfl⟩
  have hds : d.size = m + 1 := by rw [hd]; simp
  have hdg : ∀ j (h : j < d.size), (d[j]!).val = j := fun j h => by
    rw [getElem!_pos d j h]
    subst hd
    simp
  have hH : Holds (encF (m + 1)) w g 0 d := by
    intro j hj
    have := hg j (by simp; omega)
    rw [Nat.zero_add]
    unfold encF
    rw [hdg j hj]
    simpa using this
  have hrow : ∀ (W : World), (∀ k, k < w.heap.size → k ≠ g → W.heap[k]? = w.heap[k]?) → W.cell? ⟨B, 0, none⟩ = some (.slice (some ⟨b, o, none⟩) l.length cap) ∧ ∀ j, j < l.length → W.cell? ⟨b, o + j * 22, none⟩ = some (.int .u64 (atO l j).c) ∧ W.cell? ⟨b, o + j * 22 + 1, none⟩ = some (.int .u64 (atO l j).k) := by
    intro W hW
    have q : ∀ b o v, b ≠ g → w.cell? ⟨b, o, none⟩ = some v → W.cell? ⟨b, o, none⟩ = some v := fun b o v hb h => by
      rw [World.cell?_of_block (hW _ (World.block_lt_of_cell? _ _ h) hb)]; exact h
    refine ⟨q _ _ _ hgB hB, fun j hj => ?_⟩
    have r := hL j hj
    rw [atO_of hj]
    refine ⟨q _ _ _ hgb ?_, q _ _ _ hgb ?_⟩
    · have := r 0 (.int .u64 l[j].c) rfl
      simpa using this
    · exact r 1 (.int .u64 l[j].k) rfl
  have hcmp : CmpLays1 Tryz.prog 82 #[.pointer (some ⟨B, 0, none⟩)] (encF (m + 1)) (cmpL l (m + 1)) g 0 d.size w := by
    intro q os dk hk x y
    have hx : x.val < l.length := by have := x.isLt; omega
    have hy : y.val < l.length := by have := y.isLt; omega
    obtain ⟨h1, h2⟩ := hrow (sortWorld (encF (m + 1)) w g 0 q dk os) (fun k hk hn => by
      unfold sortWorld
      rw [heap_grow_old _ _ (by simpa [putRow, mapBlock, Sort.ahead] using hk)]
      simp [putRow, mapBlock, Sort.ahead, Array.getElem?_modify, Ne.symm hn])
    refine (inOrd1_any _ _ _ _ x.val y.val l.length hx hy B b o cap _ h1 (h2 _ hx).1 (h2 _ hx).2 (h2 _ hy).1 (h2 _ hy).2).mono ?_
    rintro e w' ⟨h1, q', os', h2⟩
    exact ⟨h1, q', os', h2⟩
  have hcon := Any.slices_SortFunc Tryz.sortI (encF (m + 1)) (fun _ => rfl) (cmpL l (m + 1)) (cmpL_swo l (m + 1)) 82 #[.pointer (some ⟨B, 0, none⟩)] g 0 gcap d w eg hcmp hH hgl (by omega)
  change Calls Tryz.prog 81 _ _ _ at hcon
  rw [hds] at hcon
  rw [hm]
  refine hcon.mono ?_
  rintro e w' ⟨rfl, d', n, os, hp, hs, rfl⟩
  have hsz : d'.size = m + 1 := by have := hp.1; omega
  have hx : (d'.extract 0 (m + 1)) = d' := Array.ext (by simp; omega) (by intro i h1 h2; simp)
  have hy : (d.extract 0 (m + 1)) = d := Array.ext (by simp; omega) (by intro i h1 h2; simp)
  have hH2 : Holds (encF (m + 1)) (sortWorld (encF (m + 1)) w g 0 n d' os) g 0 d' := by
    unfold sortWorld
    refine holds_grow _ _ os g 0 d' ?_ (holds_putRow _ _ g 0 d d' (holds_ahead _ w n g 0 _ hH) (by rw [hsz, hds]))
    simpa [putRow, mapBlock, Sort.ahead] using hgl
  refine ⟨rfl, d'.toList.map (fun x : Fin (m + 1) => x.val), ?_, ?_, ?_, ?_⟩
  · have hpp := hp.2.2
    rw [hx, hy] at hpp
    have h3 : d'.toList.Perm d.toList := by simpa using hpp
    have h4 := h3.map (fun x : Fin (m + 1) => x.val)
    have h5 : d.toList.map (fun x : Fin (m + 1) => x.val) = List.range (m + 1) := by
      rw [hd]
      apply List.ext_getElem
      · simp
      · intro i h1 h2
        simp
    rw [h5] at h4
    exact h4
  · rw [List.pairwise_map, List.pairwise_iff_getElem]
    intro i j hi hj hij
    have hi' : i < d'.size := by simpa using hi
    have hj' : j < d'.size := by simpa using hj
    have := hs i j (Nat.zero_le _) hij (by omega)
    rw [cmpL_nlt, getElem!_pos d' i hi', getElem!_pos d' j hj'] at this
    simpa using this
  · intro j hj
    have hj' : j < d'.size := by simpa using hj
    have := hH2 j hj'
    rw [Nat.zero_add, getElem!_pos d' j hj'] at this
    simpa [encF] using this
  · refine ⟨rfl, rfl, rfl, ?_, fun k hk hn => ?_⟩
    · simp [sortWorld, putRow, mapBlock, Sort.ahead]
    · unfold sortWorld
      rw [heap_grow_old _ _ (by simpa [putRow, mapBlock, Sort.ahead] using hk)]
      simp [putRow, mapBlock, Sort.ahead, Array.getElem?_modify, Ne.symm hn]
/-- What is sorted, and what is sorted strictly, are one. -/
theorem sort_one {α : Type} {r : α → α → Prop} : ∀ (s out : List α), out.Perm s → out.Pairwise (fun a b => ¬ r b a) → s.Pairwise r → out = s
  | [], out, hp, _, _ => List.perm_nil.1 hp
  | a :: s, [], hp, _, _ => by simpa using hp.length_eq
  | a :: s, b :: out, hp, h1, h2 => by
    have h1' := List.pairwise_cons.1 h1
    have h2' := List.pairwise_cons.1 h2
    have e : b = a := by
      apply Classical.byContradiction
      intro hne
      have hb : b ∈ s := by
        have : b ∈ a :: s := hp.subset (List.mem_cons_self ..)
        rcases List.mem_cons.1 this with h | h
        · exact absurd h hne
        · exact h
      have ha : a ∈ out := by
        have : a ∈ b :: out := hp.symm.subset (List.mem_cons_self ..)
        rcases List.mem_cons.1 this with h | h
        · exact absurd h.symm hne
        · exact h
      exact h1'.1 a ha (h2'.1 b hb)
    subst e
    rw [sort_one s out (List.Perm.cons_inv hp) h1'.2 h2'.2]
/-- Places in order, of operations whose ids are unlike. -/
theorem places_one (l s : List O) (p : List Nat) (hp : p.Perm (List.range l.length)) (h1 : p.Pairwise (fun i j => ¬ plLt l j i)) (hs : s.Perm l) (h2 : s.Pairwise idLt) : p.map (atO l) = s := by
  refine sort_one (r := idLt) s _ ?_ ?_ h2
  · have h3 := hp.map (atO l)
    have h4 : (List.range l.length).map (atO l) = l := by
      apply List.ext_getElem
      · simp
      · intro i h1 h2
        simp only [List.getElem_map, List.getElem_range]
        exact atO_of h2
    rw [h4] at h3
    exact h3.trans hs.symm
  · rw [List.pairwise_map]
    exact h1.imp fun h hl => h (.inl hl)
end Go.Proofs.YtmknkecaeagmbaaGreatDoor

/- ops.names. -/
namespace Go.Proofs.YtmknkecaeagmbaaGreatDoor
open Go.RowKit
set_option linter.unusedVariables false
set_option linter.unusedSimpArgs false
set_option maxRecDepth 100000

theorem cells_stored {W : World} {B : Nat} {C : Array Value} {t : TypeId} (h : W.heap[B]? = some (.cells C t (0, 0))) (k : Nat) (vs : List Value) : (W.setCells B k vs).heap[B]? = some (.cells ((vs.zipIdx k).foldl (fun (c : Array Value) x => c.setIfInBounds x.2 x.1) C) t (0, 0)) := by
  have key : ∀ (vs : List Value) (k : Nat) (W : World) (c : Array Value), W.heap[B]? = some (.cells c t (0, 0)) → (W.setCells B k vs).heap[B]? = some (.cells ((vs.zipIdx k).foldl (fun (c : Array Value) x => c.setIfInBounds x.2 x.1) c) t (0, 0)) := by
    intro vs
    induction vs with
    | nil => intro k W c h; exact h
    | cons v r ih =>
      intro k W c h
      rw [World.setCells]
      exact ih (k + 1) _ _ (heap_setCell_same W B k v h)
  exact key vs k W C h
theorem there_of_block {W : World} {B : Nat} {C : Array Value} {t : TypeId} (h : W.heap[B]? = some (.cells C t (0, 0))) (k n : Nat) (hk : k + n ≤ C.size) : W.there B k n := by
  intro j hj
  refine ⟨?_, free_of_block h⟩
  rw [cell_of_block h, Array.getElem?_eq_getElem (by omega)]
  rfl
/-- The ids that an operation may name. -/
def namesL (o : O) : List (Int × Int) := [(o.lc, o.lk), (o.rc, o.rk), (o.fc, o.fk), (o.tc, o.tk), (o.pc, o.pk)]
abbrev namesA (o : O) : Array Value := #[.int .u64 o.lc, .int .u64 o.lk, .int .u64 o.rc, .int .u64 o.rk, .int .u64 o.fc, .int .u64 o.fk, .int .u64 o.tc, .int .u64 o.tk, .int .u64 o.pc, .int .u64 o.pk]
set_option maxHeartbeats 4000000 in
theorem names_any (o : O) (w : World) : Calls Tryz.prog 54 #[o.val] w fun e w' => e = .returned (.agg (namesA o)) ∧ Touch (fun _ => False) w w' := by
  go_enter Tryz.func54, Tryz.ntmps54
  go_upto_region 1 with fail
  obtain ⟨W0, hW0⟩ : ∃ W0, Hid (W0 = (w.alloc (opO o)).alloc (.cells #[.int .u64 0, .int .u64 0, .int .u64 0, .int .u64 0, .int .u64 0, .int .u64 0, .int .u64 0, .int .u64 0, .int .u64 0, .int .u64 0] 67)) := ⟨_, Eq.refl _⟩
  have HT0 : Hid (Touch (fun _ => False) w W0) := by rw [hW0.out]; exact ((Touch.refl _ _).alloc _).alloc _
  have hA : OpAt w.heap.size o W0 := by rw [hW0.out]; exact (heap_two w _ _).1
  have HB : Hid (W0.heap[w.heap.size + 1]? = some (.cells #[.int .u64 0, .int .u64 0, .int .u64 0, .int .u64 0, .int .u64 0, .int .u64 0, .int .u64 0, .int .u64 0, .int .u64 0, .int .u64 0] 67)) := by rw [hW0.out]; exact (heap_two w _ _).2
  rw [← hW0.out]
  clear hW0
  have q4 := hA.q4
  have q5 := hA.q5
  have q6 := hA.q6
  have q7 := hA.q7
  have q14 := hA.q14
  have q15 := hA.q15
  have q16 := hA.q16
  have q17 := hA.q17
  have q19 := hA.q19
  have q20 := hA.q20
  clear hA
  refine wp_region_lit ?_
  refine wpList_plain rfl fun K hK => ?_
  go_simp
  refine hK _ _ ?_
  clear hK K
  refine wpList_plain rfl fun K hK => ?_
  go_simp
  refine hK _ _ ?_
  clear hK K
  refine wpList_plain rfl fun K hK => ?_
  go_simp
  refine hK _ _ ?_
  clear hK K
  refine wpList_plain rfl fun K hK => ?_
  go_simp
  refine hK _ _ ?_
  clear hK K
  refine wpList_plain rfl fun K hK => ?_
  go_simp
  refine hK _ _ ?_
  clear hK K
  refine wpList_plain rfl fun K hK => ?_
  go_simp
  refine hK _ _ ?_
  clear hK K
  refine wpList_plain rfl fun K hK => ?_
  go_simp
  refine hK _ _ ?_
  clear hK K
  refine wpList_plain rfl fun K hK => ?_
  go_simp
  refine hK _ _ ?_
  clear hK K
  refine wpList_plain rfl fun K hK => ?_
  go_simp
  refine hK _ _ ?_
  clear hK K
  refine wpList_plain rfl fun K hK => ?_
  go_simp
  refine hK _ _ ?_
  clear hK K
  refine wpList_plain rfl fun K hK => ?_
  go_simp
  refine hK _ _ ?_
  clear hK K
  refine wpList_plain rfl fun K hK => ?_
  go_simp
  refine hK _ _ ?_
  clear hK K
  refine wpList_plain rfl fun K hK => ?_
  go_simp
  refine hK _ _ ?_
  clear hK K
  clear q4 q5 q6 q7 q14 q15 q16 q17 q19 q20
  refine wpList_store_mid rfl 67 (.tmp 2) (.tmp 15) rfl (w.heap.size + 1) 0 (namesA o) rfl rfl (there_of_block HB.out 0 10 (by decide)) (by kernel_rfl) (by kernel_rfl) ?_
  simp only [Act.put]
  obtain ⟨W1, hW1⟩ : ∃ W1, Hid (W1 = W0.setCells (w.heap.size + 1) 0 (namesA o).toList) := ⟨_, Eq.refl _⟩
  have HT1 : Hid (Touch (fun _ => False) w W1) := by rw [hW1.out]; exact HT0.out.stored (by omega) _ _
  have hB : W1.heap[w.heap.size + 1]? = some (.cells (namesA o) 67 (0, 0)) := by rw [hW1.out]; exact (cells_stored HB.out 0 (namesA o).toList).trans (by kernel_rfl)
  rw [← hW1.out]
  clear hW1 HT0 HB
  have f0 := cell_of_block (i := 0) hB
  have f1 := cell_of_block (i := 1) hB
  have f2 := cell_of_block (i := 2) hB
  have f3 := cell_of_block (i := 3) hB
  have f4 := cell_of_block (i := 4) hB
  have f5 := cell_of_block (i := 5) hB
  have f6 := cell_of_block (i := 6) hB
  have f7 := cell_of_block (i := 7) hB
  have f8 := cell_of_block (i := 8) hB
  have f9 := cell_of_block (i := 9) hB
  clear hB
  go_wp2_with fail
  refine bodyPost_ret (v := .agg (namesA o)) ?_ rfl ⟨rfl, HT1.out⟩
  simp [results, Tryz.results54, go_sem, f0, f1, f2, f3, f4, f5, f6, f7, f8, f9]
end Go.Proofs.YtmknkecaeagmbaaGreatDoor

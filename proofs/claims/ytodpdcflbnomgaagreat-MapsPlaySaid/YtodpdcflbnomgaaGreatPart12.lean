/- Contracts of cmp.Compare, cmp.Or and ids.byStart. -/
import Derived.Test.YtodpdcflbnomgaaGreatPart2
import Derived.Deep.RegionHeld3
import Derived.Shelf.SlSortCmp.WholeK
import Derived.Shelf.SlSortCmp.NoneTotal
import Derived.Ground.SlsfProg
import Derived.Test.YtodpdcflbnomgaaGreatProg
import Derived.Test.YtodpdcflbnomgaaGreatRowR
namespace Go.Proofs.YtodpdcflbnomgaaGreat
open Go.RowKit
set_option linter.unusedVariables false
set_option linter.unusedSimpArgs false
set_option maxRecDepth 100000

def cmpU (x y : Int) : Int := if x < y then -1 else if y < x then 1 else 0
theorem isNaN_any (x : Int) (w : World) : Calls Tryz.prog 88 #[u64 x] w fun e w' => e = .returned (.bool false) ∧ w' = w := by
  go_enter Tryz.func88, Tryz.ntmps88
  go_wp2_with fail
  go_ret
  exact ⟨by simp, rfl⟩
set_option maxHeartbeats 800000 in
theorem compare_any (x y : Int) (w : World) : Calls Tryz.prog 67 #[u64 x, u64 y] w fun e w' => e = .returned (.int .i64 (cmpU x y)) ∧ w' = w := by
  have hn := fun x W => isNaN_any x W
  unfold cmpU
  by_cases h1 : x < y
  · rw [if_pos h1]
    go_enter Tryz.func67, Tryz.ntmps67
    go_wp2_with (go_at_call 88; refine (hn _ _).mono ?_; rintro e w' ⟨rfl, rfl⟩)
    go_ret
    exact ⟨rfl, rfl⟩
  · rw [if_neg h1]
    by_cases h2 : y < x
    · rw [if_pos h2]
      go_enter Tryz.func67, Tryz.ntmps67
      go_wp2_with (go_at_call 88; refine (hn _ _).mono ?_; rintro e w' ⟨rfl, rfl⟩)
      go_ret
      exact ⟨rfl, rfl⟩
    · rw [if_neg h2]
      go_enter Tryz.func67, Tryz.ntmps67
      go_wp2_with (go_at_call 88; refine (hn _ _).mono ?_; rintro e w' ⟨rfl, rfl⟩)
      go_ret
      exact ⟨rfl, rfl⟩
set_option maxHeartbeats 800000 in
theorem or_any (x y : Int) (w : World) (g : Nat) (c0 : w.cell? ⟨g, 0, none⟩ = some (.int .i64 x)) (c1 : w.cell? ⟨g, 1, none⟩ = some (.int .i64 y)) : Calls Tryz.prog 66 #[.slice (some ⟨g, 0, none⟩) 2 2] w fun e w' => e = .returned (.int .i64 (if x = 0 then y else x)) ∧ w' = w := by
  by_cases h1 : x = 0
  · subst h1
    rw [if_pos rfl]
    by_cases h2 : y = 0
    · subst h2
      go_enter Tryz.func66, Tryz.ntmps66
      go_wp2_with fail
      refine wp_loop_rounds 3 ?_
      rw [rounds_succ]
      go_wp2_with fail
      rw [rounds_succ]
      go_wp2_with fail
      rw [rounds_succ]
      go_wp2_with fail
      go_ret
      exact ⟨rfl, rfl⟩
    · go_enter Tryz.func66, Tryz.ntmps66
      go_wp2_with fail
      refine wp_loop_rounds 2 ?_
      rw [rounds_succ]
      go_wp2_with fail
      rw [rounds_succ]
      go_wp2_with fail
      go_ret
      exact ⟨rfl, rfl⟩
  · rw [if_neg h1]
    go_enter Tryz.func66, Tryz.ntmps66
    go_wp2_with fail
    refine wp_loop_rounds 1 ?_
    rw [rounds_succ]
    go_wp2_with fail
    go_ret
    exact ⟨rfl, rfl⟩
def byS (a b : Rg) : Int := if cmpU a.c b.c = 0 then cmpU a.f b.f else cmpU a.c b.c

set_option maxHeartbeats 1600000 in
theorem byStart_any (a b : Rg) (w : World) : Calls Tryz.prog 43 #[rgV a, rgV b] w fun e w' => e = .returned (.int .i64 (byS a b)) ∧ Grows w w' := by
  have h1 := fun W => compare_any a.c b.c W
  have h2 := fun W => compare_any a.f b.f W
  have h3 : Calls Tryz.prog 66 #[.slice (some ⟨w.heap.size + 1 + 1, 0, none⟩) 2 2] (((w.alloc (rgO a)).alloc (rgO b)).alloc (.cells #[.int .i64 (cmpU a.c b.c), .int .i64 (cmpU a.f b.f)] 3)).drew fun e w' => e = .returned (.int .i64 (if cmpU a.c b.c = 0 then cmpU a.f b.f else cmpU a.c b.c)) ∧ w' = (((w.alloc (rgO a)).alloc (rgO b)).alloc (.cells #[.int .i64 (cmpU a.c b.c), .int .i64 (cmpU a.f b.f)] 3)).drew := by
    have e := heap_alloc_new ((w.alloc (rgO a)).alloc (rgO b)) (.cells #[.int .i64 (cmpU a.c b.c), .int .i64 (cmpU a.f b.f)] 3)
    rw [World.size_alloc, World.size_alloc] at e
    have e' : (((w.alloc (rgO a)).alloc (rgO b)).alloc (.cells #[.int .i64 (cmpU a.c b.c), .int .i64 (cmpU a.f b.f)] 3)).drew.heap[w.heap.size + 1 + 1]? = some (.cells #[.int .i64 (cmpU a.c b.c), .int .i64 (cmpU a.f b.f)] 3) := e
    exact or_any (cmpU a.c b.c) (cmpU a.f b.f) _ _ (by rw [cell_of_block e']; rfl) (by rw [cell_of_block e']; rfl)
  have HG : Hid (∀ X : World, ∀ o : Obj, X = (w.alloc (rgO a)).alloc (rgO b) → Grows w ((X.alloc o).drew)) := by
    rintro X o rfl
    exact ((((Grows.refl w).alloc _).alloc _).alloc _).drew
  unfold byS
  generalize cmpU a.c b.c = x at *
  generalize cmpU a.f b.f = y at *
  generalize (if x = 0 then y else x) = z at *
  obtain ⟨c, f, t⟩ := a
  obtain ⟨c', f', t'⟩ := b
  simp only at *
  have s0 : ∀ X, X = (w.alloc (rgO ⟨c, f, t⟩)).alloc (rgO ⟨c', f', t'⟩) → ∀ Y, Touch (fun _ => False) X Y → Y.cell? ⟨w.heap.size, 0, none⟩ = some (u64 c) ∧ Y.cell? ⟨w.heap.size, 1, none⟩ = some (u64 f) ∧ Y.cell? ⟨w.heap.size + 1, 0, none⟩ = some (u64 c') ∧ Y.cell? ⟨w.heap.size + 1, 1, none⟩ = some (u64 f') := by
    rintro X rfl Y hT
    have b0 : ((w.alloc (rgO ⟨c, f, t⟩)).alloc (rgO ⟨c', f', t'⟩)).heap[w.heap.size]? = some (rgO ⟨c, f, t⟩) := (Below.heap_alloc _ _ _ (by simp)).trans (heap_alloc_new w _)
    have b1 : ((w.alloc (rgO ⟨c, f, t⟩)).alloc (rgO ⟨c', f', t'⟩)).heap[w.heap.size + 1]? = some (rgO ⟨c', f', t'⟩) := by
      have := heap_alloc_new (w.alloc (rgO ⟨c, f, t⟩)) (rgO ⟨c', f', t'⟩)
      rwa [World.size_alloc] at this
    have d0 := (hT.block _ (lt_of_heap b0) id).trans b0
    have d1 := (hT.block _ (lt_of_heap b1) id).trans b1
    exact ⟨by rw [cell_of_block d0]; rfl, by rw [cell_of_block d0]; rfl, by rw [cell_of_block d1]; rfl, by rw [cell_of_block d1]; rfl⟩
  have S0 := s0 _ rfl _ (Touch.refl _ _).drew
  have S1 := s0 _ rfl _ ((Touch.refl _ _).alloc (.cells #[.int .i64 x, .int .i64 y] 3)).drew
  clear s0
  go_enter Tryz.func43, Tryz.ntmps43
  go_wp2_with fail
  go_region_held3 (fun W => W.cell? ⟨w.heap.size, 0, none⟩ = some (u64 c) ∧ W.cell? ⟨w.heap.size, 1, none⟩ = some (u64 f) ∧ W.cell? ⟨w.heap.size + 1, 0, none⟩ = some (u64 c') ∧ W.cell? ⟨w.heap.size + 1, 1, none⟩ = some (u64 f')) (first | assumption)
    (first | (go_at_call 67; first | ((with_reducible refine (h1 _).mono ?_); rintro e w' ⟨rfl, rfl⟩) | ((with_reducible refine (h2 _).mono ?_); rintro e w' ⟨rfl, rfl⟩)) | (go_at_call 66; (with_reducible refine h3.mono ?_); rintro e w' ⟨rfl, rfl⟩))
  all_goals (try go_wp2_with fail)
  all_goals go_ret
  all_goals exact ⟨rfl, HG.out _ _ rfl⟩
end Go.Proofs.YtodpdcflbnomgaaGreat

/- The library's slices.SortFunc, laid at this program. -/
namespace Go.Proofs
open Go.Shelf
def Tryz.sortF_ren : Go.Shelf.Ren := ⟨fun | 6 => 42 | 15 => 65 | 14 => 64 | 28 => 86 | 29 => 87 | 20 => 78 | 21 => 79 | 22 => 80 | 23 => 81 | 24 => 82 | 25 => 83 | 26 => 84 | 27 => 85 | 46 => 91 | 47 => 92 | 48 => 93 | 49 => 94 | 50 => 95 | 57 => 105 | n => n, fun | 22 => 29 | 24 => 47 | 25 => 90 | 3 => 3 | 39 => 115 | 0 => 0 | 53 => 136 | 55 => 32 | 4 => 4 | 46 => 130 | 45 => 129 | 50 => 92 | 5 => 5 | 9 => 9 | 66 => 141 | 70 => 145 | 76 => 153 | 77 => 154 | n => n, fun | n => n⟩
theorem Tryz.sortF : Go.Proofs.SlLaysF0.n6 Tryz.prog Tryz.sortF_ren := {
  mixed := by kernel_rfl
  f6 := ⟨Tryz.f42.name, by decide, Tryz.func42.trans (congrArg some (by kernel_rfl))⟩
  f14 := ⟨Tryz.f64.name, by decide, Tryz.func64.trans (congrArg some (by kernel_rfl))⟩
  f15 := Tryz.func65.trans (congrArg some (by kernel_rfl))
  f20 := ⟨Tryz.f78.name, by decide, Tryz.func78.trans (congrArg some (by kernel_rfl))⟩
  f21 := ⟨Tryz.f79.name, by decide, Tryz.func79.trans (congrArg some (by kernel_rfl))⟩
  f22 := ⟨Tryz.f80.name, by decide, Tryz.func80.trans (congrArg some (by kernel_rfl))⟩
  f23 := ⟨Tryz.f81.name, by decide, Tryz.func81.trans (congrArg some (by kernel_rfl))⟩
  f24 := ⟨Tryz.f82.name, by decide, Tryz.func82.trans (congrArg some (by kernel_rfl))⟩
  f25 := ⟨Tryz.f83.name, by decide, Tryz.func83.trans (congrArg some (by kernel_rfl))⟩
  f26 := ⟨Tryz.f84.name, by decide, Tryz.func84.trans (congrArg some (by kernel_rfl))⟩
  f27 := ⟨Tryz.f85.name, by decide, Tryz.func85.trans (congrArg some (by kernel_rfl))⟩
  f28 := Tryz.func86.trans (congrArg some (by kernel_rfl))
  f29 := Tryz.func87.trans (congrArg some (by kernel_rfl))
  f46 := ⟨Tryz.f91.name, by decide, Tryz.func91.trans (congrArg some (by kernel_rfl))⟩
  f47 := Tryz.func92.trans (congrArg some (by kernel_rfl))
  f48 := Tryz.func93.trans (congrArg some (by kernel_rfl))
  f49 := ⟨Tryz.f94.name, by decide, Tryz.func94.trans (congrArg some (by kernel_rfl))⟩
  f50 := ⟨Tryz.f95.name, by decide, Tryz.func95.trans (congrArg some (by kernel_rfl))⟩
  f57 := ⟨Tryz.f105.name, by decide, Tryz.func105.trans (congrArg some (by kernel_rfl))⟩
  t0 := Tryz.underlying0
  a0 := Tryz.isAgg0
  z0 := Tryz.sizeOf0
  v0 := Tryz.zeroValue0
  t3 := Tryz.underlying3
  a3 := Tryz.isAgg3
  z3 := Tryz.sizeOf3
  v3 := Tryz.zeroValue3
  t4 := Tryz.underlying4
  a4 := Tryz.isAgg4
  z4 := Tryz.sizeOf4
  v4 := Tryz.zeroValue4
  t5 := Tryz.underlying5
  a5 := Tryz.isAgg5
  z5 := Tryz.sizeOf5
  v5 := Tryz.zeroValue5
  t9 := Tryz.underlying9
  a9 := Tryz.isAgg9
  z9 := Tryz.sizeOf9
  v9 := Tryz.zeroValue9
  t22 := Tryz.underlying29
  a22 := Tryz.isAgg29
  z22 := Tryz.sizeOf29
  v22 := Tryz.zeroValue29
  t25 := Tryz.underlying90
  a25 := Tryz.isAgg90
  z25 := Tryz.sizeOf90
  v25 := Tryz.zeroValue90
  t39 := Tryz.underlying115
  a39 := Tryz.isAgg115
  z39 := Tryz.sizeOf115
  v39 := Tryz.zeroValue115
  t45 := Tryz.underlying129
  a45 := Tryz.isAgg129
  z45 := Tryz.sizeOf129
  v45 := Tryz.zeroValue129
  t46 := Tryz.underlying130
  a46 := Tryz.isAgg130
  z46 := Tryz.sizeOf130
  v46 := Tryz.zeroValue130
  t50 := Tryz.underlying92
  a50 := Tryz.isAgg92
  z50 := Tryz.sizeOf92
  v50 := Tryz.zeroValue92
  t53 := Tryz.underlying136
  a53 := Tryz.isAgg136
  z53 := Tryz.sizeOf136
  v53 := Tryz.zeroValue136
  t55 := Tryz.underlying32
  a55 := Tryz.isAgg32
  z55 := Tryz.sizeOf32
  v55 := Tryz.zeroValue32
  t66 := Tryz.underlying141
  a66 := Tryz.isAgg141
  z66 := Tryz.sizeOf141
  v66 := Tryz.zeroValue141
  t70 := Tryz.underlying145
  a70 := Tryz.isAgg145
  z70 := Tryz.sizeOf145
  v70 := Tryz.zeroValue145
  t76 := Tryz.underlying153
  a76 := Tryz.isAgg153
  z76 := Tryz.sizeOf153
  v76 := Tryz.zeroValue153
  t77 := Tryz.underlying154
  a77 := Tryz.isAgg154
  z77 := Tryz.sizeOf154
  v77 := Tryz.zeroValue154 }
end Go.Proofs

/- The contract of slices.SortFunc of ranges by ids.byStart. -/
namespace Go.Proofs.YtodpdcflbnomgaaGreat
open Go.RowKit Go.Sort
set_option linter.unusedVariables false
set_option linter.unusedSimpArgs false

theorem byS_lt (x y : Rg) : ltOf byS x y = decide (x.c < y.c ∨ (x.c = y.c ∧ x.f < y.f)) := by
  unfold ltOf byS cmpU
  by_cases h1 : x.c < y.c
  · simp [h1]
  · by_cases h2 : y.c < x.c
    · simp [h1, h2]; omega
    · have e : x.c = y.c := by omega
      by_cases h3 : x.f < y.f
      · simp [e, h3]
      · by_cases h4 : y.f < x.f
        · simp [e, h3, h4]
        · simp [e, h3, h4]
theorem byS_swo : SWO (ltOf byS) where
  irrefl x := by rw [byS_lt]; simp
  trans x y z h1 h2 := by rw [byS_lt] at *; simp only [decide_eq_true_eq] at *; omega
  ntrans x y z h1 h2 := by rw [byS_lt] at *; simp only [decide_eq_false_iff_not] at *; omega
theorem byS_lays (blk off size : Nat) (w : World) : CmpLays Tryz.prog 43 #[] cellR 3 byS blk off size w :=
  fun _ _ _ _ x y => (byStart_any x y _).mono fun e w' ⟨h1, q, os, h2⟩ => ⟨h1, q, os, h2⟩
theorem isAggR : ∀ w, (isAgg 47).run Tryz.prog w = .ok true w := Tryz.isAgg47
theorem sizeOfR : ∀ w, (Go.sizeOf 47).run Tryz.prog w = .ok 3 w := Tryz.sizeOf47
theorem holdsR {W w : World} {l : List Rg} {g cap : Nat} (h : NewR W w (.slice (some ⟨g, 0, none⟩) l.length cap) l) (hl : l ≠ []) : HoldsK cellR 3 w g 0 l.toArray := by
  intro t ht
  rw [size_flatK] at ht
  have ht' : t < l.length * 3 := by simpa using ht
  have hdv : t / 3 < l.length := by omega
  rw [get_flatK _ _ _ _ (by simpa using ht'), id]
  obtain ⟨b, o, cap', e, _, _, _, hc⟩ := h.sl.row hl
  simp only [Value.slice.injEq, Option.some.injEq, Addr.mk.injEq] at e
  obtain ⟨⟨rfl, rfl, _⟩, _, rfl⟩ := e
  refine ⟨?_, h.free rfl (List.length_pos_iff.2 hl) _⟩
  obtain ⟨c0, c1, c2⟩ := hc (t / 3) hdv
  have e1 : (l.toArray)[t / 3]! = l[t / 3] := by rw [getElem!_pos _ _ (by simpa using hdv)]; simp
  rw [e1]
  have hm : t = t / 3 * 3 + t % 3 := by omega
  have h3 : t % 3 < 3 := Nat.mod_lt _ (by omega)
  generalize t / 3 = q at *
  generalize hr : t % 3 = r at *
  subst hm
  rcases (by omega : r = 0 ∨ r = 1 ∨ r = 2) with rfl | rfl | rfl
  · exact c0
  · exact c1
  · exact c2
theorem sortR_any (W w : World) (v : Value) (l : List Rg) (h : NewR W w v l) (hl : l.length ≤ 1073741824) :
    Calls Tryz.prog 42 #[v, .func (.func 43) #[] #[]] w fun e w' => e = .returned (.tuple #[]) ∧ ∃ s : List Rg, s.Perm l ∧ s.Pairwise Rg.le ∧ SlR w' v s ∧ Touch (fun _ => False) W w' := by
  obtain ⟨ao, cap, rfl, hg, hlc, hcm⟩ := h.shape
  by_cases hne : l = []
  · subst hne
    have hcon := AnyF.slices_SortFunc_none Tryz.sortF ao cap (.func (.func 43) #[] #[]) w
    change Calls Tryz.prog 42 _ _ _ at hcon
    refine hcon.mono ?_
    rintro e w' ⟨rfl, rfl⟩
    exact ⟨rfl, [], List.Perm.refl _, List.Pairwise.nil, h.sl, h.touch⟩
  · obtain ⟨g, rfl⟩ := hg (List.length_pos_iff.2 hne)
    have hH := holdsR h hne
    have hfr : W.heap.size ≤ g := h.fresh g rfl
    have hgl : g < w.heap.size := by
      obtain ⟨b, o, cap', e, _, _, hb, _⟩ := h.sl.row hne
      simp only [Value.slice.injEq, Option.some.injEq, Addr.mk.injEq] at e
      obtain ⟨⟨rfl, _, _⟩, _, _⟩ := e
      exact hb
    have eg : ∀ args w, (callFunc 43 args).run Tryz.prog w = .ok (.enter 43 args) w := enters_of Tryz.func43 (by kernel_rfl) rfl
    have hcon := AnyQ.slices_SortFunc Tryz.sortF 3 isAggR sizeOfR cellR (fun _ => rfl) (fun x v hv => by simp [cellR] at hv; rcases hv with rfl | rfl | rfl <;> rfl) byS byS_swo 43 #[] g 0 cap l.toArray w eg (byS_lays g 0 _ w) hH hgl (by simp; omega)
    change Calls Tryz.prog 42 _ _ _ at hcon
    rw [List.size_toArray] at hcon
    refine hcon.mono ?_
    rintro e w' ⟨rfl, d', n, os, hp, hs, rfl⟩
    have hsz : d'.size = l.length := by have := hp.1; simpa using this
    have hx : (d'.extract 0 l.length) = d' := by rw [← hsz]; simp
    have hy : (l.toArray.extract 0 l.length) = l.toArray := by simp
    have hH2 : HoldsK cellR 3 (sortWorldK cellR 3 w g 0 n d' os) g 0 d' := by
      unfold sortWorldK
      refine holdsK_grow cellR 3 _ os g 0 d' ?_ (holdsK_putRowK cellR 3 _ g 0 l.toArray d' (holdsK_ahead cellR 3 w n g 0 _ hH) (by simp [hsz]))
      simpa [putRowK, putRow, mapBlock, Sort.ahead] using hgl
    refine ⟨rfl, d'.toList, ?_, ?_, ?_, ?_⟩
    · have := hp.2.2
      rw [hx, hy] at this
      simpa using this
    · rw [List.pairwise_iff_getElem]
      intro i j hi hj hij
      have hi' : i < d'.size := by simpa using hi
      have hj' : j < d'.size := by simpa using hj
      have := hs i j (Nat.zero_le _) hij (by omega)
      rw [byS_lt, getElem!_pos d' i hi', getElem!_pos d' j hj'] at this
      simp only [decide_eq_false_iff_not] at this
      simp only [Array.getElem_toList]
      unfold Rg.le
      omega
    · refine ⟨_, cap, by rw [Array.length_toList]; exact congrArg (fun n => Value.slice (some ⟨g, 0, none⟩) n cap) hsz.symm, (fun h => by cases h), by rw [Array.length_toList, hsz]; exact hlc, hcm, .inr ⟨g, 0, rfl, fun t u hu => ?_⟩⟩
      have hlt : t < d'.size * 3 := by
        have := (List.getElem?_eq_some_iff.1 hu).1
        rw [cellsR_len, Array.length_toList] at this; exact this
      have hdv : t / 3 < d'.toList.length := by rw [Array.length_toList]; omega
      have h3 : t % 3 < 3 := Nat.mod_lt _ (by omega)
      obtain ⟨k1, k2, k3⟩ := cellsR_get d'.toList (t / 3) hdv
      have hc := (hH2.cell (i := t / 3) (c := t % 3) (by rw [Array.length_toList] at hdv; exact hdv) h3).1
      have e1 : d'[t / 3]! = d'.toList[t / 3] := by rw [getElem!_pos _ _ (by rw [Array.length_toList] at hdv; exact hdv)]; simp
      rw [e1] at hc
      have hm : 0 + t = 0 + t / 3 * 3 + t % 3 := by omega
      have hm2 : t = t / 3 * 3 + t % 3 := by omega
      rw [hm, hc]
      rw [hm2] at hu
      generalize t / 3 = q at *
      generalize t % 3 = r at *
      rcases (by omega : r = 0 ∨ r = 1 ∨ r = 2) with rfl | rfl | rfl
      · rw [Nat.add_zero, k1] at hu; exact hu
      · rw [k2] at hu; exact hu
      · rw [k3] at hu; exact hu
    · refine h.touch.then (b := w) (T := fun k => k = g) ⟨rfl, rfl, rfl, ?_, fun k hk hn => ?_⟩ (fun k hk e => absurd hfr (by omega))
      · simp [sortWorldK, putRowK, putRow, mapBlock, Sort.ahead]
      · unfold sortWorldK
        rw [heap_grow_old _ _ (by simpa [putRowK, putRow, mapBlock, Sort.ahead] using hk)]
        simp [putRowK, putRow, mapBlock, Sort.ahead, Array.getElem?_modify, Ne.symm hn]
end Go.Proofs.YtodpdcflbnomgaaGreat

/- The contract of slices.SortFunc of clocks by the closure of vector.sortedBy. -/
import Derived.Test.YtdblfabbmpdoiaaGreatPart1
namespace Go.Proofs.YtdblfabbmpdoiaaGreat
open Go.RowKit Go.Sort
set_option linter.unusedVariables false
set_option linter.unusedSimpArgs false

theorem byC_lt (x y : Ck) : ltOf byC x y = decide (x.c < y.c) := by
  unfold ltOf byC cmpU
  by_cases h1 : x.c < y.c
  · simp [h1]
  · by_cases h2 : y.c < x.c
    · simp [h1, h2]
    · simp [h1, h2]
theorem byC_swo : SWO (ltOf byC) where
  irrefl x := by rw [byC_lt]; simp
  trans x y z h1 h2 := by rw [byC_lt] at *; simp only [decide_eq_true_eq] at *; omega
  ntrans x y z h1 h2 := by rw [byC_lt] at *; simp only [decide_eq_false_iff_not] at *; omega
theorem byC_lays (blk off size B : Nat) (w : World) (hB : w.cell? ⟨B, 0, none⟩ = some (.func (.func 29) #[] #[])) (hne : B ≠ blk) : CmpLays Tryz.prog 47 #[.pointer (some ⟨B, 0, none⟩)] cellC 2 byC blk off size w :=
  fun m os dk _ x y => by
    have hlt := World.block_lt_of_cell? _ _ hB
    have hc : (sortWorldK cellC 2 w blk off m dk os).cell? ⟨B, 0, none⟩ = some (.func (.func 29) #[] #[]) := by
      have : (sortWorldK cellC 2 w blk off m dk os).heap[B]? = w.heap[B]? := by
        unfold sortWorldK
        rw [heap_grow_old _ _ (by simpa [putRowK, putRow, mapBlock, Sort.ahead] using hlt)]
        simp [putRowK, putRow, mapBlock, Sort.ahead, Array.getElem?_modify, Ne.symm hne]
      rw [World.cell?_of_block this]; exact hB
    exact (byC_any x y _ B hc).mono fun e w' ⟨h1, q, os, h2⟩ => ⟨h1, q, os, h2⟩
theorem isAggC : ∀ w, (isAgg 50).run Tryz.prog w = .ok true w := Tryz.isAgg50
theorem sizeOfC : ∀ w, (Go.sizeOf 50).run Tryz.prog w = .ok 2 w := Tryz.sizeOf50
theorem holdsC {W w : World} {l : List Ck} {g cap : Nat} (h : NewC W w (.slice (some ⟨g, 0, none⟩) l.length cap) l) (hl : l ≠ []) : HoldsK cellC 2 w g 0 l.toArray := by
  intro t ht
  rw [size_flatK] at ht
  have ht' : t < l.length * 2 := by simpa using ht
  have hdv : t / 2 < l.length := by omega
  rw [get_flatK _ _ _ _ (by simpa using ht'), id]
  obtain ⟨b, o, cap', e, _, _, _, hc⟩ := h.sl.row hl
  simp only [Value.slice.injEq, Option.some.injEq, Addr.mk.injEq] at e
  obtain ⟨⟨rfl, rfl, _⟩, _, rfl⟩ := e
  refine ⟨?_, h.free rfl (List.length_pos_iff.2 hl) _⟩
  obtain ⟨c0, c1⟩ := hc (t / 2) hdv
  have e1 : (l.toArray)[t / 2]! = l[t / 2] := by rw [getElem!_pos _ _ (by simpa using hdv)]; simp
  rw [e1]
  have hm : t = t / 2 * 2 + t % 2 := by omega
  have h3 : t % 2 < 2 := Nat.mod_lt _ (by omega)
  generalize t / 2 = q at *
  generalize hr : t % 2 = r at *
  subst hm
  rcases (by omega : r = 0 ∨ r = 1) with rfl | rfl
  · exact c0
  · exact c1
theorem sortC_any (W w : World) (v : Value) (l : List Ck) (h : NewC W w v l) (hl : l.length ≤ 1073741824) (B : Nat) (hB : w.cell? ⟨B, 0, none⟩ = some (.func (.func 29) #[] #[])) (hBv : ∀ k, v.ownBlock = some k → B ≠ k) :
    Calls Tryz.prog 46 #[v, .func (.func 47) #[] #[.pointer (some ⟨B, 0, none⟩)]] w fun e w' => e = .returned (.tuple #[]) ∧ ∃ s : List Ck, s.Perm l ∧ s.Pairwise (fun a b : Ck => a.c ≤ b.c) ∧ SlC w' v s ∧ Touch (fun _ => False) W w' := by
  obtain ⟨ao, cap, rfl, hg, hlc, hcm⟩ := h.shape
  by_cases hne : l = []
  · subst hne
    have hcon := AnyF.slices_SortFunc_none Tryz.sortG ao cap (.func (.func 47) #[] #[.pointer (some ⟨B, 0, none⟩)]) w
    change Calls Tryz.prog 46 _ _ _ at hcon
    refine hcon.mono ?_
    rintro e w' ⟨rfl, rfl⟩
    exact ⟨rfl, [], List.Perm.refl _, List.Pairwise.nil, h.sl, h.touch⟩
  · obtain ⟨g, rfl⟩ := hg (List.length_pos_iff.2 hne)
    have hH := holdsC h hne
    have hfr : W.heap.size ≤ g := h.fresh g rfl
    have hgl : g < w.heap.size := by
      obtain ⟨b, o, cap', e, _, _, hb, _⟩ := h.sl.row hne
      simp only [Value.slice.injEq, Option.some.injEq, Addr.mk.injEq] at e
      obtain ⟨⟨rfl, _, _⟩, _, _⟩ := e
      exact hb
    have eg : ∀ args w, (callFunc 47 args).run Tryz.prog w = .ok (.enter 47 args) w := enters_of Tryz.func47 (by kernel_rfl) rfl
    have hcon := AnyQ.slices_SortFunc Tryz.sortG 2 isAggC sizeOfC cellC (fun _ => rfl) (fun x v hv => by simp [cellC] at hv; rcases hv with rfl | rfl <;> rfl) byC byC_swo 47 #[.pointer (some ⟨B, 0, none⟩)] g 0 cap l.toArray w eg (byC_lays g 0 _ B w hB (hBv g rfl)) hH hgl (by simp; omega)
    change Calls Tryz.prog 46 _ _ _ at hcon
    rw [List.size_toArray] at hcon
    refine hcon.mono ?_
    rintro e w' ⟨rfl, d', n, os, hp, hs, rfl⟩
    have hsz : d'.size = l.length := by have := hp.1; simpa using this
    have hx : (d'.extract 0 l.length) = d' := by rw [← hsz]; simp
    have hy : (l.toArray.extract 0 l.length) = l.toArray := by simp
    have hH2 : HoldsK cellC 2 (sortWorldK cellC 2 w g 0 n d' os) g 0 d' := by
      unfold sortWorldK
      refine holdsK_grow cellC 2 _ os g 0 d' ?_ (holdsK_putRowK cellC 2 _ g 0 l.toArray d' (holdsK_ahead cellC 2 w n g 0 _ hH) (by simp [hsz]))
      simpa [putRowK, putRow, mapBlock, Sort.ahead] using hgl
    refine ⟨rfl, d'.toList, ?_, ?_, ?_, ?_⟩
    · have := hp.2.2
      rw [hx, hy] at this
      simpa using this
    · rw [List.pairwise_iff_getElem]
      intro i j hi hj hij
      have hi' : i < d'.size := by simpa using hi
      have hj' : j < d'.size := by simpa using hj
      have := hs i j (Nat.zero_le _) hij (by omega)
      rw [byC_lt, getElem!_pos d' i hi', getElem!_pos d' j hj'] at this
      simp only [decide_eq_false_iff_not] at this
      simp only [Array.getElem_toList]
      omega
    · refine ⟨_, cap, by rw [Array.length_toList]; exact congrArg (fun n => Value.slice (some ⟨g, 0, none⟩) n cap) hsz.symm, (fun h => by cases h), by rw [Array.length_toList, hsz]; exact hlc, hcm, .inr ⟨g, 0, rfl, fun t u hu => ?_⟩⟩
      have hlt : t < d'.size * 2 := by
        have := (List.getElem?_eq_some_iff.1 hu).1
        rw [cellsC_len, Array.length_toList] at this; exact this
      have hdv : t / 2 < d'.toList.length := by rw [Array.length_toList]; omega
      have h3 : t % 2 < 2 := Nat.mod_lt _ (by omega)
      obtain ⟨k1, k2⟩ := cellsC_get d'.toList (t / 2) hdv
      have hc := (hH2.cell (i := t / 2) (c := t % 2) (by rw [Array.length_toList] at hdv; exact hdv) h3).1
      have e1 : d'[t / 2]! = d'.toList[t / 2] := by rw [getElem!_pos _ _ (by rw [Array.length_toList] at hdv; exact hdv)]; simp
      rw [e1] at hc
      have hm : 0 + t = 0 + t / 2 * 2 + t % 2 := by omega
      have hm2 : t = t / 2 * 2 + t % 2 := by omega
      rw [hm, hc]
      rw [hm2] at hu
      generalize t / 2 = q at *
      generalize t % 2 = r at *
      rcases (by omega : r = 0 ∨ r = 1) with rfl | rfl
      · rw [Nat.add_zero, k1] at hu; exact hu
      · rw [k2] at hu; exact hu
    · refine h.touch.then (b := w) (T := fun k => k = g) ⟨rfl, rfl, rfl, ?_, fun k hk hn => ?_⟩ (fun k hk e => absurd hfr (by omega))
      · simp [sortWorldK, putRowK, putRow, mapBlock, Sort.ahead]
      · unfold sortWorldK
        rw [heap_grow_old _ _ (by simpa [putRowK, putRow, mapBlock, Sort.ahead] using hk)]
        simp [putRowK, putRow, mapBlock, Sort.ahead, Array.getElem?_modify, Ne.symm hn]
end Go.Proofs.YtdblfabbmpdoiaaGreat

/- The contract of slices.SortFunc of ranges by ids.byStart. -/
import Derived.Test.YtegldlfbmaapiaaPart14
import Derived.Test.YtegldlfbmaapiaaRowR
namespace Go.Proofs.Ytegldlfbmaapiaa
open Go.RowKit Go.Sort
set_option linter.unusedVariables false
set_option linter.unusedSimpArgs false

theorem byS_lt (x y : Rg) : ltOf byS x y = decide (x.c < y.c ∨ (x.c = y.c ∧ x.f < y.f)) := by
  unfold ltOf byS cmpU
  by_cases h1 : x.c < y.c
  · simp [h1]
  · by_cases h2 : y.c < x.c
    · simp [h1, h2]; omega
    · have e : x.c = y.c := by omega
      by_cases h3 : x.f < y.f
      · simp [e, h3]
      · by_cases h4 : y.f < x.f
        · simp [e, h3, h4]
        · simp [e, h3, h4]
theorem byS_swo : SWO (ltOf byS) where
  irrefl x := by rw [byS_lt]; simp
  trans x y z h1 h2 := by rw [byS_lt] at *; simp only [decide_eq_true_eq] at *; omega
  ntrans x y z h1 h2 := by rw [byS_lt] at *; simp only [decide_eq_false_iff_not] at *; omega
theorem byS_lays (blk off size : Nat) (w : World) : CmpLays Try.prog 44 #[] cellR 3 byS blk off size w :=
  fun _ _ _ _ x y => (byStart_any x y _).mono fun e w' ⟨h1, q, os, h2⟩ => ⟨h1, q, os, h2⟩
theorem isAggR : ∀ w, (isAgg 54).run Try.prog w = .ok true w := Try.isAgg54
theorem sizeOfR : ∀ w, (Go.sizeOf 54).run Try.prog w = .ok 3 w := Try.sizeOf54
theorem holdsR {W w : World} {l : List Rg} {g cap : Nat} (h : NewR W w (.slice (some ⟨g, 0, none⟩) l.length cap) l) (hl : l ≠ []) : HoldsK cellR 3 w g 0 l.toArray := by
  intro t ht
  rw [size_flatK] at ht
  have ht' : t < l.length * 3 := by simpa using ht
  have hdv : t / 3 < l.length := by omega
  rw [get_flatK _ _ _ _ (by simpa using ht'), id]
  obtain ⟨b, o, cap', e, _, _, _, hc⟩ := h.sl.row hl
  simp only [Value.slice.injEq, Option.some.injEq, Addr.mk.injEq] at e
  obtain ⟨⟨rfl, rfl, _⟩, _, rfl⟩ := e
  refine ⟨?_, h.free rfl (List.length_pos_iff.2 hl) _⟩
  obtain ⟨c0, c1, c2⟩ := hc (t / 3) hdv
  have e1 : (l.toArray)[t / 3]! = l[t / 3] := by rw [getElem!_pos _ _ (by simpa using hdv)]; simp
  rw [e1]
  have hm : t = t / 3 * 3 + t % 3 := by omega
  have h3 : t % 3 < 3 := Nat.mod_lt _ (by omega)
  generalize t / 3 = q at *
  generalize hr : t % 3 = r at *
  subst hm
  rcases (by omega : r = 0 ∨ r = 1 ∨ r = 2) with rfl | rfl | rfl
  · exact c0
  · exact c1
  · exact c2
theorem sortR_any (W w : World) (v : Value) (l : List Rg) (h : NewR W w v l) (hl : l.length ≤ 1073741824) :
    Calls Try.prog 43 #[v, .func (.func 44) #[] #[]] w fun e w' => e = .returned (.tuple #[]) ∧ ∃ s : List Rg, s.Perm l ∧ s.Pairwise Rg.le ∧ SlR w' v s ∧ Touch (fun _ => False) W w' := by
  obtain ⟨ao, cap, rfl, hg, hlc, hcm⟩ := h.shape
  by_cases hne : l = []
  · subst hne
    have hcon := AnyF.slices_SortFunc_none Try.sortF ao cap (.func (.func 44) #[] #[]) w
    change Calls Try.prog 43 _ _ _ at hcon
    refine hcon.mono ?_
    rintro e w' ⟨rfl, rfl⟩
    exact ⟨rfl, [], List.Perm.refl _, List.Pairwise.nil, h.sl, h.touch⟩
  · obtain ⟨g, rfl⟩ := hg (List.length_pos_iff.2 hne)
    have hH := holdsR h hne
    have hfr : W.heap.size ≤ g := h.fresh g rfl
    have hgl : g < w.heap.size := by
      obtain ⟨b, o, cap', e, _, _, hb, _⟩ := h.sl.row hne
      simp only [Value.slice.injEq, Option.some.injEq, Addr.mk.injEq] at e
      obtain ⟨⟨rfl, _, _⟩, _, _⟩ := e
      exact hb
    have eg : ∀ args w, (callFunc 44 args).run Try.prog w = .ok (.enter 44 args) w := enters_of Try.func44 (by kernel_rfl) rfl
    have hcon := AnyQ.slices_SortFunc Try.sortF 3 isAggR sizeOfR cellR (fun _ => rfl) (fun x v hv => by simp [cellR] at hv; rcases hv with rfl | rfl | rfl <;> rfl) byS byS_swo 44 #[] g 0 cap l.toArray w eg (byS_lays g 0 _ w) hH hgl (by simp; omega)
    change Calls Try.prog 43 _ _ _ at hcon
    rw [List.size_toArray] at hcon
    refine hcon.mono ?_
    rintro e w' ⟨rfl, d', n, os, hp, hs, rfl⟩
    have hsz : d'.size = l.length := by have := hp.1; simpa using this
    have hx : (d'.extract 0 l.length) = d' := by rw [← hsz]; simp
    have hy : (l.toArray.extract 0 l.length) = l.toArray := by simp
    have hH2 : HoldsK cellR 3 (sortWorldK cellR 3 w g 0 n d' os) g 0 d' := by
      unfold sortWorldK
      refine holdsK_grow cellR 3 _ os g 0 d' ?_ (holdsK_putRowK cellR 3 _ g 0 l.toArray d' (holdsK_ahead cellR 3 w n g 0 _ hH) (by simp [hsz]))
      simpa [putRowK, putRow, mapBlock, Sort.ahead] using hgl
    refine ⟨rfl, d'.toList, ?_, ?_, ?_, ?_⟩
    · have := hp.2.2
      rw [hx, hy] at this
      simpa using this
    · rw [List.pairwise_iff_getElem]
      intro i j hi hj hij
      have hi' : i < d'.size := by simpa using hi
      have hj' : j < d'.size := by simpa using hj
      have := hs i j (Nat.zero_le _) hij (by omega)
      rw [byS_lt, getElem!_pos d' i hi', getElem!_pos d' j hj'] at this
      simp only [decide_eq_false_iff_not] at this
      simp only [Array.getElem_toList]
      unfold Rg.le
      omega
    · refine ⟨_, cap, by rw [Array.length_toList]; exact congrArg (fun n => Value.slice (some ⟨g, 0, none⟩) n cap) hsz.symm, (fun h => by cases h), by rw [Array.length_toList, hsz]; exact hlc, hcm, .inr ⟨g, 0, rfl, fun t u hu => ?_⟩⟩
      have hlt : t < d'.size * 3 := by
        have := (List.getElem?_eq_some_iff.1 hu).1
        rw [cellsR_len, Array.length_toList] at this; exact this
      have hdv : t / 3 < d'.toList.length := by rw [Array.length_toList]; omega
      have h3 : t % 3 < 3 := Nat.mod_lt _ (by omega)
      obtain ⟨k1, k2, k3⟩ := cellsR_get d'.toList (t / 3) hdv
      have hc := (hH2.cell (i := t / 3) (c := t % 3) (by rw [Array.length_toList] at hdv; exact hdv) h3).1
      have e1 : d'[t / 3]! = d'.toList[t / 3] := by rw [getElem!_pos _ _ (by rw [Array.length_toList] at hdv; exact hdv)]; simp
      rw [e1] at hc
      have hm : 0 + t = 0 + t / 3 * 3 + t % 3 := by omega
      have hm2 : t = t / 3 * 3 + t % 3 := by omega
      rw [hm, hc]
      rw [hm2] at hu
      generalize t / 3 = q at *
      generalize t % 3 = r at *
      rcases (by omega : r = 0 ∨ r = 1 ∨ r = 2) with rfl | rfl | rfl
      · rw [Nat.add_zero, k1] at hu; exact hu
      · rw [k2] at hu; exact hu
      · rw [k3] at hu; exact hu
    · refine h.touch.then (b := w) (T := fun k => k = g) ⟨rfl, rfl, rfl, ?_, fun k hk hn => ?_⟩ (fun k hk e => absurd hfr (by omega))
      · simp [sortWorldK, putRowK, putRow, mapBlock, Sort.ahead]
      · unfold sortWorldK
        rw [heap_grow_old _ _ (by simpa [putRowK, putRow, mapBlock, Sort.ahead] using hk)]
        simp [putRowK, putRow, mapBlock, Sort.ahead, Array.getElem?_modify, Ne.symm hn]
end Go.Proofs.Ytegldlfbmaapiaa

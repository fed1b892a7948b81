/- The document's list of files against files by names. -/
import Derived.Test.YtfmpbkdmcgkeoaaRefQ
import Derived.Test.YtfmpbkdmcgkeoaaCrashL
namespace Go.Proofs.Ytfmpbkdmcgkeoaa
open Go.RowKit Go.Maps
set_option linter.unusedVariables false

def absL (l : List RFl) : List (Key × File) := l.map RFl.abs
section
variable {l : List RFl} {k : Key}
theorem rising_get (hr : Rising (absL l)) {a b : Nat} (hab : a < b) (hb : b < l.length) : bytesBefore (l[a]'(by omega)).key l[b].key = true := by
  have := List.pairwise_iff_getElem.1 hr a b (by simp [absL]; omega) (by simpa [absL] using hb) hab
  simp only [absL, List.getElem_map] at this
  exact this
theorem ris_get (h : ris k l = true) : ∃ hl : ridx k l < l.length, (l[ridx k l]'hl).key = k := by
  refine ⟨ris_lt h, ?_⟩
  unfold ris at h
  rw [List.getElem?_eq_getElem (ris_lt h)] at h
  simpa using h
theorem nis_get (h : ris k l = false) (hl : ridx k l < l.length) : l[ridx k l].key ≠ k := by
  unfold ris at h
  rw [List.getElem?_eq_getElem hl] at h
  simpa using h
theorem before_part : ∀ p ∈ absL (l.take (ridx k l)), bytesBefore p.1 k = true := by
  intro p hp
  obtain ⟨f, hf, rfl⟩ := List.mem_map.1 hp
  obtain ⟨j, hj, rfl⟩ := List.mem_iff_getElem.1 hf
  rw [List.length_take] at hj
  rw [List.getElem_take]
  exact ridx_lt k l j (by omega) (by omega)
theorem behind_part (hr : Rising (absL l)) : ∀ p ∈ absL (l.drop (if ris k l then ridx k l + 1 else ridx k l)), bytesBefore k p.1 = true := by
  cases hb : ris k l with
  | true =>
    obtain ⟨hl, e⟩ := ris_get hb
    rw [if_pos rfl]
    intro p hp
    obtain ⟨f, hf, rfl⟩ := List.mem_map.1 hp
    obtain ⟨j, hj, rfl⟩ := List.mem_iff_getElem.1 hf
    rw [List.length_drop] at hj
    rw [List.getElem_drop]
    have := rising_get hr (a := ridx k l) (b := ridx k l + 1 + j) (by omega) (by omega)
    rw [e] at this; exact this
  | false =>
    rw [if_neg (by decide)]
    intro p hp
    obtain ⟨f, hf, rfl⟩ := List.mem_map.1 hp
    obtain ⟨j, hj, rfl⟩ := List.mem_iff_getElem.1 hf
    rw [List.length_drop] at hj
    rw [List.getElem_drop]
    have hl : ridx k l < l.length := by omega
    have h1 := before_total _ _ (nis_get hb hl) (ridx_at k l hl)
    cases j with
    | zero => exact h1
    | succ j => exact before_trans _ _ _ h1 (rising_get hr (a := ridx k l) (b := ridx k l + (j + 1)) (by omega) (by omega))
theorem parts (k : Key) (l : List RFl) : ∃ mid, (mid = [] ∨ ∃ y, mid = [(k, y)]) ∧ (ris k l = true → mid ≠ []) ∧ (ris k l = false → mid = []) ∧ absL l = absL (l.take (ridx k l)) ++ mid ++ absL (l.drop (if ris k l then ridx k l + 1 else ridx k l)) := by
  cases hb : ris k l with
  | true =>
    obtain ⟨hl, e⟩ := ris_get hb
    refine ⟨[(k, l[ridx k l].abs.2)], .inr ⟨_, rfl⟩, by simp, by simp, ?_⟩
    have h2 : l = l.take (ridx k l) ++ [l[ridx k l]] ++ l.drop (ridx k l + 1) := by
      rw [List.append_assoc, List.singleton_append, List.getElem_cons_drop, List.take_append_drop]
    have h3 : [l[ridx k l].abs] = [(k, l[ridx k l].abs.2)] := congrArg (fun y => [(y, l[ridx k l].abs.2)]) e
    have h4 := congrArg absL h2
    rw [if_pos rfl, ← h3]
    simp only [absL, List.map_append, List.map_cons, List.map_nil] at h4 ⊢
    exact h4
  | false =>
    refine ⟨[], .inl rfl, by simp, by simp, ?_⟩
    rw [if_neg (by decide), List.append_nil]
    simp only [absL, ← List.map_append, List.take_append_drop]
theorem adel_parts (hr : Rising (absL l)) : adel k (absL l) = absL (l.take (ridx k l)) ++ absL (l.drop (if ris k l then ridx k l + 1 else ridx k l)) := by
  obtain ⟨mid, hm, _, _, e⟩ := parts k l
  have hA : adel k (absL (l.take (ridx k l))) = absL (l.take (ridx k l)) := adel_id (aget_none.2 fun p hp => before_ne (before_part p hp))
  have hB : adel k (absL (l.drop (if ris k l then ridx k l + 1 else ridx k l))) = absL (l.drop (if ris k l then ridx k l + 1 else ridx k l)) := adel_id (aget_none.2 fun p hp => (before_ne (behind_part hr p hp)).symm)
  have hM : adel k mid = [] := by rcases hm with rfl | ⟨y, rfl⟩ <;> simp [adel]
  rw [e]
  simp only [adel, List.filter_append] at hA hB hM ⊢
  rw [hA, hB, hM, List.append_nil]
theorem rdrop_abs (hr : Rising (absL l)) : absL (rdrop k l) = adel k (absL l) := by
  rw [adel_parts hr]
  unfold rdrop
  cases hb : ris k l with
  | true => rw [if_pos rfl, if_pos rfl]; simp [absL]
  | false =>
    rw [if_neg (by decide), if_neg (by decide)]
    simp only [absL, ← List.map_append, List.take_append_drop]
theorem rput_abs (hr : Rising (absL l)) (f : RFl) : absL (rput f l) = aput f.key (f.bs, f.syn) (absL l) := by
  unfold aput
  rw [adel_parts hr, ains_mid _ _ _ _ before_part (behind_part hr)]
  unfold rput
  simp [absL, RFl.abs, RFl.key]
theorem ris_abs (hr : Rising (absL l)) : ris k l = (aget k (absL l)).isSome := by
  obtain ⟨mid, hm, h1, h2, e⟩ := parts k l
  cases hb : ris k l with
  | true =>
    rcases hm with rfl | ⟨y, rfl⟩
    · exact absurd rfl (h1 hb)
    · rw [aget_of_mem (x := y) hr (by rw [e]; simp)]; rfl
  | false =>
    have e0 := h2 hb
    have : aget k (absL l) = none := by
      rw [← adel_id (k := k) (l := absL l)]
      · exact aget_adel_same
      · refine aget_none.2 fun p hp => ?_
        rw [e, e0, List.append_nil] at hp
        rcases List.mem_append.1 hp with hp | hp
        · exact before_ne (before_part p hp)
        · exact (before_ne (behind_part hr p hp)).symm
    rw [this]; rfl
theorem get_abs (hr : Rising (absL l)) (h : ris k l = true) : ∃ hl : ridx k l < l.length, aget k (absL l) = some ((l[ridx k l]'hl).bs, (l[ridx k l]'hl).syn) ∧ (l[ridx k l]'hl).key = k := by
  obtain ⟨hl, e⟩ := ris_get h
  refine ⟨hl, ?_, e⟩
  have : (k, ((l[ridx k l]).bs, (l[ridx k l]).syn)) ∈ absL l := List.mem_map.2 ⟨l[ridx k l], List.getElem_mem hl, congrArg (fun y => (y, (l[ridx k l].bs, l[ridx k l].syn))) e⟩
  exact aget_of_mem hr this
theorem rsum_abs (l : List RFl) (r p : Int) : rsum l = (St.mk (absL l) r p).used := by
  simp [rsum, St.used, asum, absL, Function.comp_def, RFl.abs]
end
end Go.Proofs.Ytfmpbkdmcgkeoaa

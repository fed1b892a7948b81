/- Every other file synced, then a crash: by the state. -/
import Derived.Test.YtfeojfcnphjbdaaCrashL
import Derived.Test.YtfeojfcnphjbdaaCutM
namespace Go.Proofs.Ytfeojfcnphjbdaa
open Go.RowKit Go.Maps
set_option linter.unusedVariables false

/-- The files, those at even places below j all synced. -/
def syncTo (j : Nat) (fs : List (Key × File)) : List (Key × File) := fs.mapIdx fun i p => if i % 2 = 0 ∧ i < j then (p.1, (p.2.1, p.2.1.length)) else p
theorem syncTo_len (j : Nat) (fs : List (Key × File)) : (syncTo j fs).length = fs.length := by simp [syncTo]
theorem syncTo_get (j : Nat) (fs : List (Key × File)) (i : Nat) (h : i < (syncTo j fs).length) (h' : i < fs.length) : (syncTo j fs)[i] = if i % 2 = 0 ∧ i < j then (fs[i].1, (fs[i].2.1, fs[i].2.1.length)) else fs[i] := by simp [syncTo]
theorem syncTo_key (j : Nat) (fs : List (Key × File)) (i : Nat) (h : i < (syncTo j fs).length) (h' : i < fs.length) : (syncTo j fs)[i].1 = fs[i].1 := by
  rw [syncTo_get j fs i h h']; split <;> rfl
theorem syncTo_keys (j : Nat) (fs : List (Key × File)) : (syncTo j fs).map (·.1) = fs.map (·.1) := by
  refine List.ext_getElem (by simp [syncTo_len]) fun i h1 h2 => ?_
  simp only [List.getElem_map]
  exact syncTo_key j fs i _ _
theorem syncTo_zero (fs : List (Key × File)) : syncTo 0 fs = fs := by
  refine List.ext_getElem (syncTo_len _ _) fun i h1 h2 => ?_
  rw [syncTo_get 0 fs i h1 h2, if_neg (by omega)]
theorem rising_keys {a b : List (Key × File)} (h : Rising a) (e : a.map (·.1) = b.map (·.1)) : Rising b := by
  have h1 : (a.map (·.1)).Pairwise fun p q => bytesBefore p q = true := List.pairwise_map.2 h
  rw [e] at h1
  exact List.pairwise_map.1 h1
theorem at_idx {fs : List (Key × File)} (hr : Rising fs) {j : Nat} (h : j < fs.length) : aget fs[j].1 fs = some fs[j].2 ∧ ∀ x, aput fs[j].1 x fs = fs.set j (fs[j].1, x) := by
  refine ⟨aget_of_mem hr (List.getElem_mem h), fun x => ?_⟩
  have e : fs = fs.take j ++ (fs[j].1, fs[j].2) :: fs.drop (j + 1) := by
    have := List.take_append_drop j fs
    rw [List.drop_eq_getElem_cons h] at this
    exact this.symm
  have hr2 := hr
  rw [e] at hr2
  have := aput_mid fs[j].1 x fs[j].2 (fs.take j) (fs.drop (j + 1)) hr2
  rw [← e] at this
  rw [this, List.set_eq_take_append_cons_drop, if_pos h]
theorem sync_step {fs : List (Key × File)} (hr : Rising fs) {j : Nat} (h : j < fs.length) (he : j % 2 = 0) (r : Int) : (St.mk (syncTo j fs) r (-1)).err fs[j].1 = 0 ∧ mSync (St.mk (syncTo j fs) r (-1)) fs[j].1 = St.mk (syncTo (j + 2) fs) r (-1) := by
  have hj : j < (syncTo j fs).length := by rw [syncTo_len]; exact h
  obtain ⟨q1, q2⟩ := at_idx (rising_keys hr (syncTo_keys j fs).symm) hj
  rw [syncTo_key j fs j hj h] at q1 q2
  have hg : (syncTo j fs)[j] = fs[j] := by rw [syncTo_get j fs j hj h, if_neg (by omega)]
  rw [hg] at q1
  have e0 : (St.mk (syncTo j fs) r (-1)).err fs[j].1 = 0 := by simp [St.err, q1]
  refine ⟨e0, ?_⟩
  unfold mSync
  rw [if_pos e0]
  have ea : (St.mk (syncTo j fs) r (-1)).at fs[j].1 = fs[j].2 := by simp [St.at, q1]
  rw [ea]
  simp only [St.to]
  rw [q2, show spent (-1) = -1 from rfl]
  congr 1
  refine List.ext_getElem (by simp [syncTo_len]) fun i h1 h2 => ?_
  have hi : i < fs.length := by rw [syncTo_len] at h2; exact h2
  rw [syncTo_get _ _ i h2 hi, List.getElem_set]
  by_cases e : j = i
  · subst e
    rw [if_pos rfl, if_pos (by omega)]
  · rw [if_neg e, syncTo_get _ _ i (by rw [syncTo_len]; exact hi) hi]
    by_cases h3 : i % 2 = 0 ∧ i < j
    · rw [if_pos h3, if_pos (by omega)]
    · rw [if_neg h3, if_neg (by omega)]
theorem crashAll_get (keep : List Int) : ∀ (k : Nat) (fs : List (Key × File)) (i : Nat) (h : i < (crashAll keep k fs).length) (h' : i < fs.length), (crashAll keep k fs)[i] = (fs[i].1, crashA keep (k + i) fs[i].2)
  | k, [], i, h, h' => by simp at h'
  | k, p :: r, 0, h, h' => rfl
  | k, p :: r, i + 1, h, h' => by
    have := crashAll_get keep (k + 1) r i (by simpa [crashAll] using h) (by simpa using h')
    simp only [crashAll, List.getElem_cons_succ, this]
    rw [show k + 1 + i = k + (i + 1) from by omega]
/-- Behind the crash: the names are as they were; each file is a beginning, those at even places whole. -/
theorem keep_end {fs : List (Key × File)} (hr : Rising fs) (keep : List Int) (N : Nat) (hN : fs.length ≤ N) (r : Int) :
    mList (mCrash (St.mk (syncTo N fs) r (-1)) keep) = fs.map (·.1) ∧ (mCrash (St.mk (syncTo N fs) r (-1)) keep).fs.length = fs.length ∧
    ∀ i (h : i < fs.length), ∃ t, t ≤ fs[i].2.1.length ∧ (i % 2 = 0 → t = fs[i].2.1.length) ∧ mRead (mCrash (St.mk (syncTo N fs) r (-1)) keep) fs[i].1 = fs[i].2.1.take t := by
  have hk : (crashAll keep 0 (syncTo N fs)).map (·.1) = fs.map (·.1) := (crashAll_keys keep 0 _).trans (syncTo_keys N fs)
  have hlen : (crashAll keep 0 (syncTo N fs)).length = fs.length := by rw [crashAll_length, syncTo_len]
  refine ⟨by unfold mList; exact (if_neg (by show ¬ ((-1 : Int) = 0); decide)).trans hk, hlen, fun i h => ?_⟩
  have hr2 := rising_keys hr hk.symm
  have hi : i < (crashAll keep 0 (syncTo N fs)).length := by rw [hlen]; exact h
  have hi2 : i < (syncTo N fs).length := by rw [syncTo_len]; exact h
  have q := (at_idx hr2 hi).1
  have hg := crashAll_get keep 0 (syncTo N fs) i hi hi2
  have hs := syncTo_get N fs i hi2 h
  rw [hg] at q
  simp only [syncTo_key N fs i hi2 h, Nat.zero_add] at q
  have e : mRead (mCrash (St.mk (syncTo N fs) r (-1)) keep) fs[i].1 = (syncTo N fs)[i].2.1.take (stay keep i (syncTo N fs)[i].2) := by
    simp [mRead, mCrash, St.err, St.at, q, crashA]
  have hb : (syncTo N fs)[i].2.1 = fs[i].2.1 := by rw [hs]; split <;> rfl
  refine ⟨min (stay keep i (syncTo N fs)[i].2) fs[i].2.1.length, Nat.min_le_right _ _, fun he => ?_, ?_⟩
  · have h2 : (syncTo N fs)[i].2.2 = fs[i].2.1.length := by rw [hs, if_pos ⟨he, by omega⟩]
    have : fs[i].2.1.length ≤ stay keep i (syncTo N fs)[i].2 := by
      unfold stay; split <;> omega
    omega
  · rw [e, hb, List.take_eq_take_iff]; omega
theorem pEnd_pow (r : Int) : ∀ (l : List StepV) (fs : List (Key × File)), ∃ fs2, pEnd (St.mk fs r (-1)) l = St.mk fs2 r (-1)
  | [], fs => ⟨fs, rfl⟩
  | x :: l, fs => by
    obtain ⟨fs2, e, _⟩ := pw_S (fs := fs) (r := r) (p := 1) (by decide) x
    obtain ⟨fs3, e3⟩ := pEnd_pow r l fs2
    refine ⟨fs3, ?_⟩
    simp only [pEnd, List.foldl_cons] at e3 ⊢
    rw [e]; exact e3
theorem Live.rising {w0 w : World} {d : Nat} {F : Nat → Prop} {s : St} (h : Live w0 w d F s) : Rising s.fs := by
  obtain ⟨m, es, hC, hR, hfs, hF, hFl⟩ := h.disk
  exact rising_abs hC.rising hfs
end Go.Proofs.Ytfeojfcnphjbdaa

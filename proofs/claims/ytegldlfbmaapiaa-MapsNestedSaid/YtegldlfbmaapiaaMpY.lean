/- Package maps: what is found and seen, by the list of the sets. No Go in it. -/
import Derived.Test.YtegldlfbmaapiaaMpV
namespace Go.Proofs.Ytegldlfbmaapiaa
open Go.RowKit Go.Maps
set_option linter.unusedVariables false
set_option linter.unusedSimpArgs false
set_option maxRecDepth 100000

theorem refBits_ltM (f : Nat) (h : f < 18446744073709551616) : refBits f < 18446744073709551616 := by
  unfold refBits
  split
  · decide
  · exact h
theorem cleanO_fits {o : O} (h : o.fits) : (cleanO o).fits := ⟨h.c0, h.k0, h.kind, h.st, h.lc, h.lk, h.rc, h.rk, h.pc, h.pk, h.fc, h.fk, h.tc, h.tk, h.vk, h.vn, refBits_ltM _ h.vf⟩
theorem lessM_clean (a b : O) : lessM (cleanO a) (cleanO b) = lessM a b := rfl
section
variable {s : MS} {L : List O}
/-- It is one of that key, and shown. -/
def AtKey (s : MS) (c k : Int) (ky : ByteArray) (o : O) : Prop := o.pc = c ∧ o.pk = k ∧ o.ky = ky ∧ shS s o.c o.k = true
theorem get_is (h : Has s L) {c k : Int} (hc : U64 c) (hk : U64 k) (ky : ByteArray) :
    ((∀ o ∈ L, ¬ AtKey s c k ky o) ∧ getS s c k ky = (zeroO, false)) ∨
    (∃ b ∈ L, AtKey s c k ky b ∧ (∀ o ∈ L, AtKey s c k ky o → lessM b o = false) ∧ getS s c k ky = if b.vk ≠ 0 then (cleanO b, true) else (zeroO, false)) := by
  rcases great_is (sh := shS s) (h.heap c k ky hc hk) with ⟨e, ha⟩ | ⟨e, hm, hs, hg⟩
  · refine .inl ⟨fun o ho ⟨e1, e2, e3, e4⟩ => ?_, ?_⟩
    · have := ha (cleanO o) ((h.rank c k ky hc hk _).2 ⟨o, ho, rfl, e1, e2, e3⟩)
      rw [show shS s (cleanO o).c (cleanO o).k = shS s o.c o.k from rfl, e4] at this; cases this
    · unfold getS; rw [if_neg (by rw [e]; simp)]
  · obtain ⟨b, hb, e0, e1, e2, e3⟩ := (h.rank c k ky hc hk _).1 hm
    refine .inr ⟨b, hb, ⟨e1, e2, e3, ?_⟩, fun o ho ⟨q1, q2, q3, q4⟩ => ?_, ?_⟩
    · rw [e0] at hs; exact hs
    · have := hg (cleanO o) ((h.rank c k ky hc hk _).2 ⟨o, ho, rfl, q1, q2, q3⟩) q4
      rw [e0] at this; exact this
    · unfold getS
      rw [e, e0]
      by_cases hv : b.vk ≠ 0
      · rw [if_pos ⟨rfl, hv⟩, if_pos hv]
      · rw [if_neg (fun q => hv q.2), if_neg hv]
theorem get_eq (h : Has s L) {c k : Int} (hc : U64 c) (hk : U64 k) {ky : ByteArray} {b : O} (hb : b ∈ L) (ha : AtKey s c k ky b) (hmax : ∀ o ∈ L, AtKey s c k ky o → o = b ∨ lessM o b = true) :
    getS s c k ky = if b.vk ≠ 0 then (cleanO b, true) else (zeroO, false) := by
  rcases get_is h hc hk ky with ⟨e, _⟩ | ⟨b', hb', ha', hg, e⟩
  · exact absurd ha (e b hb)
  · rcases hmax b' hb' ha' with rfl | q
    · exact e
    · rw [hg b hb ha] at q; cases q
theorem get_none (h : Has s L) {c k : Int} (hc : U64 c) (hk : U64 k) {ky : ByteArray} (hn : ∀ o ∈ L, ¬ AtKey s c k ky o) : getS s c k ky = (zeroO, false) := by
  rcases get_is h hc hk ky with ⟨_, e⟩ | ⟨b', hb', ha', hg, e⟩
  · exact e
  · exact absurd ha' (hn b' hb')
theorem fitS_of (h : Has s L) : FitS s := fun c k ky hc hk ht => by
  rcases get_is h hc hk ky with ⟨_, e⟩ | ⟨b, hb, ha, hg, e⟩
  · rw [e] at ht; cases ht
  · by_cases hv : b.vk ≠ 0
    · rw [e, if_pos hv]; exact cleanO_fits (h.fits b hb).1
    · rw [e, if_neg hv] at ht; cases ht
theorem ok_of (h : Has s L) {o : O} (hf : o.fits) (hk : o.kind = 4) (h1 : numOk o.c = true) (h2 : numOk o.k = true) (hp : (o.pc = 0 ∧ o.pk = 0) ∨ ∃ x ∈ L, isMapB x = true ∧ x.c = o.pc ∧ x.k = o.pk) (hn : ∀ x ∈ L, ¬ (x.c = o.c ∧ x.k = o.k)) : okS s o = true := by
  unfold okS
  have e1 := (h.maps _ _ hf.upc hf.upk).2 hp
  have e2 : aget (kI o.c o.k) s.told = none := by
    cases e : aget (kI o.c o.k) s.told with
    | none => rfl
    | some x =>
      obtain ⟨y, hy, e3⟩ := (h.told _ _ hf.uc hf.uk).1 (by rw [e]; rfl)
      exact absurd e3 (hn y hy)
  rw [e1, e2, h1, h2, hk]; rfl
theorem not_ok_told (h : Has s L) {o : O} (hf : o.fits) (hn : ∃ x ∈ L, x.c = o.c ∧ x.k = o.k) : okS s o = false := by
  have := (h.told _ _ hf.uc hf.uk).2 hn
  unfold okS
  cases e : aget (kI o.c o.k) s.told with
  | none => rw [e] at this; cases this
  | some x => simp
theorem not_ok_par (h : Has s L) {o : O} (hf : o.fits) (hp : ¬ ((o.pc = 0 ∧ o.pk = 0) ∨ ∃ x ∈ L, isMapB x = true ∧ x.c = o.pc ∧ x.k = o.pk)) : okS s o = false := by
  have : isS s o.pc o.pk = false := by
    rw [Bool.eq_false_iff]
    intro q
    exact hp ((h.maps _ _ hf.upc hf.upk).1 q)
  unfold okS
  rw [this]; simp
theorem sorted_ext : ∀ {a b : List Key}, a.Pairwise (fun x y => bytesBefore x y = true) → b.Pairwise (fun x y => bytesBefore x y = true) → (∀ x, x ∈ a ↔ x ∈ b) → a = b
  | [], [], _, _, _ => rfl
  | [], y :: b, _, _, h => by have := (h y).2 (by simp); cases this
  | x :: a, [], _, _, h => by have := (h x).1 (by simp); cases this
  | x :: a, y :: b, ha, hb, h => by
    have ha' := List.pairwise_cons.1 ha
    have hb' := List.pairwise_cons.1 hb
    have hxy : x = y := by
      rcases List.mem_cons.1 ((h x).1 (by simp)) with e | e
      · exact e
      · rcases List.mem_cons.1 ((h y).2 (by simp)) with e2 | e2
        · exact e2.symm
        · have h1 := hb'.1 x e
          have h2 := ha'.1 y e2
          have := before_trans _ _ _ h1 h2
          rw [before_irrefl] at this; cases this
    subst hxy
    rw [sorted_ext ha'.2 hb'.2 fun z => ?_]
    constructor
    · intro hz
      rcases List.mem_cons.1 ((h z).1 (by simp [hz])) with e | e
      · have := ha'.1 z hz
        rw [e, before_irrefl] at this; cases this
      · exact e
    · intro hz
      rcases List.mem_cons.1 ((h z).2 (by simp [hz])) with e | e
      · have := hb'.1 z hz
        rw [e, before_irrefl] at this; cases this
      · exact e
theorem keys_eq (h : Has s L) {c k : Int} (hc : U64 c) (hk : U64 k) {l : List Key} (hl : l.Pairwise (fun x y => bytesBefore x y = true)) (hm : ∀ ky, ky ∈ l ↔ ∃ o ∈ L, o.pc = c ∧ o.pk = k ∧ o.ky.data.toList = ky) : keysS s c k = l :=
  sorted_ext (h.keys c k hc hk).1 hl fun ky => by rw [(h.keys c k hc hk).2, hm]
/-- A key's text. -/
theorem strK_data (b : ByteArray) : strK b.data.toList = b := by obtain ⟨b⟩ := b; simp [strK]
/-- Maps are laid ahead of what is in them. -/
def Chain (L : List O) : Prop := ∀ i (h : i < L.length), (L[i].pc = 0 ∧ L[i].pk = 0) ∨ ∃ j, ∃ hj : j < i, isMapB (L[j]'(by omega)) = true ∧ (L[j]'(by omega)).c = L[i].pc ∧ (L[j]'(by omega)).k = L[i].pk
def Apart (L : List O) : Prop := ∀ i j (hi : i < L.length) (hj : j < L.length), L[i].c = L[j].c → L[i].k = L[j].k → i = j
theorem Chain.nil : Chain [] := fun i h => by simp at h
theorem Apart.nil : Apart [] := fun i j h => by simp at h
theorem Chain.snoc {o : O} (h : Chain L) (hp : (o.pc = 0 ∧ o.pk = 0) ∨ ∃ x ∈ L, isMapB x = true ∧ x.c = o.pc ∧ x.k = o.pk) : Chain (L ++ [o]) := by
  intro i hi
  by_cases hl : i < L.length
  · rw [List.getElem_append_left hl]
    rcases h i hl with e | ⟨j, hj, e⟩
    · exact .inl e
    · refine .inr ⟨j, hj, ?_⟩
      rw [List.getElem_append_left (by omega)]; exact e
  · have hi2 : i = L.length := by simp at hi; omega
    subst hi2
    rw [List.getElem_append_right (Nat.le_refl _)]
    simp only [Nat.sub_self, List.getElem_cons_zero]
    rcases hp with e | ⟨x, hx, e⟩
    · exact .inl e
    · obtain ⟨j, hj, rfl⟩ := List.mem_iff_getElem.1 hx
      refine .inr ⟨j, hj, ?_⟩
      rw [List.getElem_append_left hj]; exact e
theorem Apart.snoc {o : O} (h : Apart L) (hn : ∀ x ∈ L, ¬ (x.c = o.c ∧ x.k = o.k)) : Apart (L ++ [o]) := by
  intro i j hi hj e1 e2
  by_cases h1 : i < L.length
  · by_cases h2 : j < L.length
    · rw [List.getElem_append_left h1, List.getElem_append_left h2] at e1 e2
      exact h i j h1 h2 e1 e2
    · have : j = L.length := by simp at hj; omega
      subst this
      rw [List.getElem_append_left h1, List.getElem_append_right (Nat.le_refl _)] at e1 e2
      simp only [Nat.sub_self, List.getElem_cons_zero] at e1 e2
      exact absurd ⟨e1, e2⟩ (hn _ (List.getElem_mem h1))
  · have : i = L.length := by simp at hi; omega
    subst this
    by_cases h2 : j < L.length
    · rw [List.getElem_append_right (Nat.le_refl _), List.getElem_append_left h2] at e1 e2
      simp only [Nat.sub_self, List.getElem_cons_zero] at e1 e2
      exact absurd ⟨e1.symm, e2.symm⟩ (hn _ (List.getElem_mem h2))
    · simp at hj; omega
theorem keys_len (h : Has s L) {c k : Int} {n : Nat} (hcn : Cnt n s) : (keysS s c k).length ≤ n := by
  unfold keysS
  rw [List.length_map]
  cases e : aget (kI c k) s.keys with
  | none => exact Nat.zero_le _
  | some m => exact hcn.ranks _ (aget_mem e)
/-- So deep it is at most. -/
theorem deep_of (h : Has s L) (hC : Chain L) (hA : Apart L) (hcn : Cnt 100000 s) : ∀ (n : Nat) (c k : Int), U64 c → U64 k →
    ((c = 0 ∧ k = 0 ∧ L.length + 1 ≤ n) ∨ ∃ j, ∃ hj : j < L.length, L[j].c = c ∧ L[j].k = k ∧ L.length ≤ n + j) → 0 < n → Deep s n c k := by
  intro n
  induction n with
  | zero => intro c k _ _ _ h0; omega
  | succ n ih =>
    intro c k hc hk hj _
    refine ⟨by have := keys_len h (c := c) (k := k) hcn; omega, fun ky hky => ?_⟩
    obtain ⟨o0, ho0, _, _, e3⟩ := ((h.keys c k hc hk).2 ky).1 hky
    refine ⟨?_, fun ht hm => ?_⟩
    · rw [← e3, Array.length_toList]; exact (h.fits o0 ho0).2.1
    · rcases get_is h hc hk (strK ky) with ⟨_, e⟩ | ⟨b, hb, ha, hg, e⟩
      · rw [e] at ht; cases ht
      · by_cases hv : b.vk ≠ 0
        · rw [e, if_pos hv] at hm ⊢
          have hfb := (h.fits b hb).1
          obtain ⟨i, hi, rfl⟩ := List.mem_iff_getElem.1 hb
          refine ⟨hfb.uc, hfb.uk, ih _ _ hfb.uc hfb.uk (.inr ⟨i, hi, rfl, rfl, ?_⟩) ?_⟩
          · rcases hj with ⟨_, _, q⟩ | ⟨j, hjl, q1, q2, q3⟩
            · omega
            · rcases hC i hi with ⟨z1, z2⟩ | ⟨j2, hj2, z0, z1, z2⟩
              · have hz := (h.fits _ (List.getElem_mem hjl)).2.2.1
                exact absurd (by rw [q1, ← ha.1]; exact z1) (num_u64 hz)
              · have := hA j j2 hjl (by omega) (by rw [q1, z1, ha.1]) (by rw [q2, z2, ha.2.1])
                omega
          · rcases hj with ⟨_, _, q⟩ | ⟨j, hjl, q1, q2, q3⟩
            · omega
            · rcases hC i hi with ⟨z1, z2⟩ | ⟨j2, hj2, z0, z1, z2⟩
              · have hz := (h.fits _ (List.getElem_mem hjl)).2.2.1
                exact absurd (by rw [q1, ← ha.1]; exact z1) (num_u64 hz)
              · have := hA j j2 hjl (by omega) (by rw [q1, z1, ha.1]) (by rw [q2, z2, ha.2.1])
                omega
        · rw [e, if_neg hv] at ht; cases ht
end
end Go.Proofs.Ytegldlfbmaapiaa

/- Package maps: what is found and seen, by the list of the sets. No Go in it. -/
import Derived.Test.YtodpdcflbnomgaaGreatMpV
namespace Go.Proofs.YtodpdcflbnomgaaGreat
open Go.RowKit Go.Maps
set_option linter.unusedVariables false
set_option linter.unusedSimpArgs false
set_option maxRecDepth 100000

theorem refBits_ltM (f : Nat) (h : f < 18446744073709551616) : refBits f < 18446744073709551616 := by
  unfold refBits
  split
  · decide
  · exact h
theorem cleanO_fits {o : O} (h : o.fits) : (cleanO o).fits := ⟨h.c0, h.k0, h.kind, h.st, h.lc, h.lk, h.rc, h.rk, h.pc, h.pk, h.fc, h.fk, h.tc, h.tk, h.vk, h.vn, refBits_ltM _ h.vf⟩
theorem lessM_clean (a b : O) : lessM (cleanO a) (cleanO b) = lessM a b := rfl
section
variable {s : MS} {L : List O}
/-- It is one of that key, and shown. -/
def AtKey (s : MS) (c k : Int) (ky : ByteArray) (o : O) : Prop := o.pc = c ∧ o.pk = k ∧ o.ky = ky ∧ shS s o.c o.k = true
theorem get_is (h : Has s L) {c k : Int} (hc : U64 c) (hk : U64 k) (ky : ByteArray) :
    ((∀ o ∈ L, ¬ AtKey s c k ky o) ∧ getS s c k ky = (zeroO, false)) ∨
    (∃ b ∈ L, AtKey s c k ky b ∧ (∀ o ∈ L, AtKey s c k ky o → lessM b o = false) ∧ getS s c k ky = if b.vk ≠ 0 then (cleanO b, true) else (zeroO, false)) := by
  rcases great_is (sh := shS s) (h.heap c k ky hc hk) with ⟨e, ha⟩ | ⟨e, hm, hs, hg⟩
  · refine .inl ⟨fun o ho ⟨e1, e2, e3, e4⟩ => ?_, ?_⟩
    · have := ha (cleanO o) ((h.rank c k ky hc hk _).2 ⟨o, ho, rfl, e1, e2, e3⟩)
      rw [show shS s (cleanO o).c (cleanO o).k = shS s o.c o.k from rfl, e4] at this; cases this
    · unfold getS; rw [if_neg (by rw [e]; simp)]
  · obtain ⟨b, hb, e0, e1, e2, e3⟩ := (h.rank c k ky hc hk _).1 hm
    refine .inr ⟨b, hb, ⟨e1, e2, e3, ?_⟩, fun o ho ⟨q1, q2, q3, q4⟩ => ?_, ?_⟩
    · rw [e0] at hs; exact hs
    · have := hg (cleanO o) ((h.rank c k ky hc hk _).2 ⟨o, ho, rfl, q1, q2, q3⟩) q4
      rw [e0] at this; exact this
    · unfold getS
      rw [e, e0]
      by_cases hv : b.vk ≠ 0
      · rw [if_pos ⟨rfl, hv⟩, if_pos hv]
      · rw [if_neg (fun q => hv q.2), if_neg hv]
theorem get_eq (h : Has s L) {c k : Int} (hc : U64 c) (hk : U64 k) {ky : ByteArray} {b : O} (hb : b ∈ L) (ha : AtKey s c k ky b) (hmax : ∀ o ∈ L, AtKey s c k ky o → o = b ∨ lessM o b = true) :
    getS s c k ky = if b.vk ≠ 0 then (cleanO b, true) else (zeroO, false) := by
  rcases get_is h hc hk ky with ⟨e, _⟩ | ⟨b', hb', ha', hg, e⟩
  · exact absurd ha (e b hb)
  · rcases hmax b' hb' ha' with rfl | q
    · exact e
    · rw [hg b hb ha] at q; cases q
theorem get_none (h : Has s L) {c k : Int} (hc : U64 c) (hk : U64 k) {ky : ByteArray} (hn : ∀ o ∈ L, ¬ AtKey s c k ky o) : getS s c k ky = (zeroO, false) := by
  rcases get_is h hc hk ky with ⟨_, e⟩ | ⟨b', hb', ha', hg, e⟩
  · exact e
  · exact absurd ha' (hn b' hb')
theorem fitS_of (h : Has s L) : FitS s := fun c k ky hc hk ht => by
  rcases get_is h hc hk ky with ⟨_, e⟩ | ⟨b, hb, ha, hg, e⟩
  · rw [e] at ht; cases ht
  · by_cases hv : b.vk ≠ 0
    · rw [e, if_pos hv]; exact cleanO_fits (h.fits b hb).1
    · rw [e, if_neg hv] at ht; cases ht
theorem ok_of (h : Has s L) {o : O} (hf : o.fits) (hk : o.kind = 4) (h1 : numOk o.c = true) (h2 : numOk o.k = true) (hp : (o.pc = 0 ∧ o.pk = 0) ∨ ∃ x ∈ L, isMapB x = true ∧ x.c = o.pc ∧ x.k = o.pk) (hn : ∀ x ∈ L, ¬ (x.c = o.c ∧ x.k = o.k)) : okS s o = true := by
  unfold okS
  have e1 := (h.maps _ _ hf.upc hf.upk).2 hp
  have e2 : aget (kI o.c o.k) s.told = none := by
    cases e : aget (kI o.c o.k) s.told with
    | none => rfl
    | some x =>
      obtain ⟨y, hy, e3⟩ := (h.told _ _ hf.uc hf.uk).1 (by rw [e]; rfl)
      exact absurd e3 (hn y hy)
  rw [e1, e2, h1, h2, hk]; rfl
theorem not_ok_told (h : Has s L) {o : O} (hf : o.fits) (hn : ∃ x ∈ L, x.c = o.c ∧ x.k = o.k) : okS s o = false := by
  have := (h.told _ _ hf.uc hf.uk).2 hn
  unfold okS
  cases e : aget (kI o.c o.k) s.told with
  | none => rw [e] at this; cases this
  | some x => simp
theorem not_ok_par (h : Has s L) {o : O} (hf : o.fits) (hp : ¬ ((o.pc = 0 ∧ o.pk = 0) ∨ ∃ x ∈ L, isMapB x = true ∧ x.c = o.pc ∧ x.k = o.pk)) : okS s o = false := by
  have : isS s o.pc o.pk = false := by
    rw [Bool.eq_false_iff]
    intro q
    exact hp ((h.maps _ _ hf.upc hf.upk).1 q)
  unfold okS
  rw [this]; simp
theorem sorted_ext : ∀ {a b : List Key}, a.Pairwise (fun x y => bytesBefore x y = true) → b.Pairwise (fun x y => bytesBefore x y = true) → (∀ x, x ∈ a ↔ x ∈ b) → a = b
  | [], [], _, _, _ => rfl
  | [], y :: b, _, _, h => by have := (h y).2 (by simp); cases this
  | x :: a, [], _, _, h => by have := (h x).1 (by simp); cases this
  | x :: a, y :: b, ha, hb, h => by
    have ha' := List.pairwise_cons.1 ha
    have hb' := List.pairwise_cons.1 hb
    have hxy : x = y := by
      rcases List.mem_cons.1 ((h x).1 (by simp)) with e | e
      · exact e
      · rcases List.mem_cons.1 ((h y).2 (by simp)) with e2 | e2
        · exact e2.symm
        · have h1 := hb'.1 x e
          have h2 := ha'.1 y e2
          have := before_trans _ _ _ h1 h2
          rw [before_irrefl] at this; cases this
    subst hxy
    rw [sorted_ext ha'.2 hb'.2 fun z => ?_]
    constructor
    · intro hz
      rcases List.mem_cons.1 ((h z).1 (by simp [hz])) with e | e
      · have := ha'.1 z hz
        rw [e, before_irrefl] at this; cases this
      · exact e
    · intro hz
      rcases List.mem_cons.1 ((h z).2 (by simp [hz])) with e | e
      · have := hb'.1 z hz
        rw [e, before_irrefl] at this; cases this
      · exact e
theorem keys_eq (h : Has s L) {c k : Int} (hc : U64 c) (hk : U64 k) {l : List Key} (hl : l.Pairwise (fun x y => bytesBefore x y = true)) (hm : ∀ ky, ky ∈ l ↔ ∃ o ∈ L, o.pc = c ∧ o.pk = k ∧ o.ky.data.toList = ky) : keysS s c k = l :=
  sorted_ext (h.keys c k hc hk).1 hl fun ky => by rw [(h.keys c k hc hk).2, hm]
/-- A key's text. -/
theorem strK_data (b : ByteArray) : strK b.data.toList = b := by obtain ⟨b⟩ := b; simp [strK]
/-- Maps are laid ahead of what is in them. -/
def Chain (L : List O) : Prop := ∀ i (h : i < L.length), (L[i].pc = 0 ∧ L[i].pk = 0) ∨ ∃ j, ∃ hj : j < i, isMapB (L[j]'(by omega)) = true ∧ (L[j]'(by omega)).c = L[i].pc ∧ (L[j]'(by omega)).k = L[i].pk
def Apart (L : List O) : Prop := ∀ i j (hi : i < L.length) (hj : j < L.length), L[i].c = L[j].c → L[i].k = L[j].k → i = j
theorem Chain.nil : Chain [] := fun i h => by simp at h
theorem Apart.nil : Apart [] := fun i j h => by simp at h
theorem Chain.snoc {o : O} (h : Chain L) (hp : (o.pc = 0 ∧ o.pk = 0) ∨ ∃ x ∈ L, isMapB x = true ∧ x.c = o.pc ∧ x.k = o.pk) : Chain (L ++ [o]) := by
  intro i hi
  by_cases hl : i < L.length
  · rw [List.getElem_append_left hl]
    rcases h i hl with e | ⟨j, hj, e⟩
    · exact .inl e
    · refine .inr ⟨j, hj, ?_⟩
      rw [List.getElem_append_left (by omega)]; exact e
  · have hi2 : i = L.length := by simp at hi; omega
    subst hi2
    rw [List.getElem_append_right (Nat.le_refl _)]
    simp only [Nat.sub_self, List.getElem_cons_zero]
    rcases hp with e | ⟨x, hx, e⟩
    · exact .inl e
    · obtain ⟨j, hj, rfl⟩ := List.mem_iff_getElem.1 hx
      refine .inr ⟨j, hj, ?_⟩
      rw [List.getElem_append_left hj]; exact e
theorem Apart.snoc {o : O} (h : Apart L) (hn : ∀ x ∈ L, ¬ (x.c = o.c ∧ x.k = o.k)) : Apart (L ++ [o]) := by
  intro i j hi hj e1 e2
  by_cases h1 : i < L.length
  · by_cases h2 : j < L.length
    · rw [List.getElem_append_left h1, List.getElem_append_left h2] at e1 e2
      exact h i j h1 h2 e1 e2
    · have : j = L.length := by simp at hj; omega
      subst this
      rw [List.getElem_append_left h1, List.getElem_append_right (Nat.le_refl _)] at e1 e2
      simp only [Nat.sub_self, List.getElem_cons_zero] at e1 e2
      exact absurd ⟨e1, e2⟩ (hn _ (List.getElem_mem h1))
  · have : i = L.length := by simp at hi; omega
    subst this
    by_cases h2 : j < L.length
    · rw [List.getElem_append_right (Nat.le_refl _), List.getElem_append_left h2] at e1 e2
      simp only [Nat.sub_self, List.getElem_cons_zero] at e1 e2
      exact absurd ⟨e1.symm, e2.symm⟩ (hn _ (List.getElem_mem h2))
    · simp at hj; omega
theorem keys_len (h : Has s L) {c k : Int} {n : Nat} (hcn : Cnt n s) : (keysS s c k).length ≤ n := by
  unfold keysS
  rw [List.length_map]
  cases e : aget (kI c k) s.keys with
  | none => exact Nat.zero_le _
  | some m => exact hcn.ranks _ (aget_mem e)
/-- So deep it is at most. -/
theorem deep_of (h : Has s L) (hC : Chain L) (hA : Apart L) (hcn : Cnt 100000 s) : ∀ (n : Nat) (c k : Int), U64 c → U64 k →
    ((c = 0 ∧ k = 0 ∧ L.length + 1 ≤ n) ∨ ∃ j, ∃ hj : j < L.length, L[j].c = c ∧ L[j].k = k ∧ L.length ≤ n + j) → 0 < n → Deep s n c k := by
  intro n
  induction n with
  | zero => intro c k _ _ _ h0; omega
  | succ n ih =>
    intro c k hc hk hj _
    refine ⟨by have := keys_len h (c := c) (k := k) hcn; omega, fun ky hky => ?_⟩
    obtain ⟨o0, ho0, _, _, e3⟩ := ((h.keys c k hc hk).2 ky).1 hky
    refine ⟨?_, fun ht hm => ?_⟩
    · rw [← e3, Array.length_toList]; exact (h.fits o0 ho0).2.1
    · rcases get_is h hc hk (strK ky) with ⟨_, e⟩ | ⟨b, hb, ha, hg, e⟩
      · rw [e] at ht; cases ht
      · by_cases hv : b.vk ≠ 0
        · rw [e, if_pos hv] at hm ⊢
          have hfb := (h.fits b hb).1
          obtain ⟨i, hi, rfl⟩ := List.mem_iff_getElem.1 hb
          refine ⟨hfb.uc, hfb.uk, ih _ _ hfb.uc hfb.uk (.inr ⟨i, hi, rfl, rfl, ?_⟩) ?_⟩
          · rcases hj with ⟨_, _, q⟩ | ⟨j, hjl, q1, q2, q3⟩
            · omega
            · rcases hC i hi with ⟨z1, z2⟩ | ⟨j2, hj2, z0, z1, z2⟩
              · have hz := (h.fits _ (List.getElem_mem hjl)).2.2.1
                exact absurd (by rw [q1, ← ha.1]; exact z1) (num_u64 hz)
              · have := hA j j2 hjl (by omega) (by rw [q1, z1, ha.1]) (by rw [q2, z2, ha.2.1])
                omega
          · rcases hj with ⟨_, _, q⟩ | ⟨j, hjl, q1, q2, q3⟩
            · omega
            · rcases hC i hi with ⟨z1, z2⟩ | ⟨j2, hj2, z0, z1, z2⟩
              · have hz := (h.fits _ (List.getElem_mem hjl)).2.2.1
                exact absurd (by rw [q1, ← ha.1]; exact z1) (num_u64 hz)
              · have := hA j j2 hjl (by omega) (by rw [q1, z1, ha.1]) (by rw [q2, z2, ha.2.1])
                omega
        · rw [e, if_neg hv] at ht; cases ht
end
end Go.Proofs.YtodpdcflbnomgaaGreat

/- The document's Maps as functions of a list of sets: what they are of a Maps that holds these sets. No Go in it. -/
namespace Go.Proofs.YtodpdcflbnomgaaGreat
open Go.RowKit Go.Maps
set_option linter.unusedVariables false
set_option linter.unusedSimpArgs false
set_option maxRecDepth 100000

/-- It tells this map. -/
def hitR (c k : Int) (o : O) : Bool := (decide (o.c = c) && decide (o.k = k)) && decide (o.vk = 5)
def zeroR (c k : Int) : Bool := decide (c = 0) && decide (k = 0)
def isR (L : List O) (c k : Int) : Bool := L.any (hitR c k) || zeroR c k
def idR (c k : Int) (o : O) : Bool := decide (o.c = c) && decide (o.k = k)
def okR (L : List O) (o : O) : Bool := (decide (o.kind = 4) && (numOk o.c && numOk o.k) && isR L o.pc o.pk) && !(L.any (idR o.c o.k))
/-- It is a set of that key that isn't hidden. -/
def atR (H : List Rg) (c k : Int) (ky : ByteArray) (o : O) : Bool := ((decide (o.pc = c) && decide (o.pk = k)) && decide (o.ky = ky)) && !(hasB H o.c o.k)
def stepR (H : List Rg) (c k : Int) (ky : ByteArray) (b : O × Bool) (o : O) : O × Bool := if atR H c k ky o = true ∧ (b.2 = false ∨ lessM b.1 o = true) then (o, true) else b
def bestR (H : List Rg) (L : List O) (c k : Int) (ky : ByteArray) : O × Bool := L.foldl (stepR H c k ky) (zeroO, false)
def getR (H : List Rg) (L : List O) (c k : Int) (ky : ByteArray) : O × Bool := if (bestR H L c k ky).2 = true ∧ (bestR H L c k ky).1.vk ≠ 0 then bestR H L c k ky else (zeroO, false)
def findR (H : List Rg) (L : List O) : Int → Int → List Key → Int × Int × Bool
  | c, k, [] => (c, k, true)
  | c, k, x :: r => if (getR H L c k (strK x)).2 = true ∧ isMapB (getR H L c k (strK x)).1 = true then findR H L (getR H L c k (strK x)).1.c (getR H L c k (strK x)).1.k r else (0, 0, false)
/-- A key comes to others, in order. -/
def insK : List Key → Key → List Key
  | [], x => [x]
  | y :: l, x => if bytesBefore y x = true then y :: insK l x else if y = x then y :: l else x :: y :: l
def inR (c k : Int) (o : O) : Bool := decide (o.pc = c) && decide (o.pk = k)
def keyStep (c k : Int) (ks : List Key) (o : O) : List Key := if inR c k o = true then insK ks o.ky.data.toList else ks
def keysR (L : List O) (c k : Int) : List Key := L.foldl (keyStep c k) []
def viewR (H : List Rg) (L : List O) : Nat → Int → Int → List Et
  | 0, _, _ => []
  | n + 1, c, k => (keysR L c k).filterMap fun ky => entE (viewR H L n) (getR H L c k (strK ky)) ky
theorem viewR_succ (H : List Rg) (L : List O) (n : Nat) (c k : Int) : viewR H L (n + 1) c k = (keysR L c k).filterMap fun ky => entE (viewR H L n) (getR H L c k (strK ky)) ky := rfl

theorem hitR_iff {c k : Int} {o : O} : hitR c k o = true ↔ isMapB o = true ∧ o.c = c ∧ o.k = k := by
  unfold hitR isMapB
  simp only [Bool.and_eq_true, decide_eq_true_eq]
  exact ⟨fun h => ⟨h.2, h.1⟩, fun h => ⟨h.2, h.1⟩⟩
theorem zeroR_iff {c k : Int} : zeroR c k = true ↔ c = 0 ∧ k = 0 := by unfold zeroR; simp
theorem isR_iff {L : List O} {c k : Int} : isR L c k = true ↔ (c = 0 ∧ k = 0) ∨ ∃ o ∈ L, isMapB o = true ∧ o.c = c ∧ o.k = k := by
  unfold isR
  rw [Bool.or_eq_true, List.any_eq_true, zeroR_iff]
  constructor
  · rintro (⟨o, ho, h⟩ | h)
    · exact .inr ⟨o, ho, hitR_iff.1 h⟩
    · exact .inl h
  · rintro (h | ⟨o, ho, h⟩)
    · exact .inr h
    · exact .inl ⟨o, ho, hitR_iff.2 h⟩
section
variable {s : MS} {L : List O} {H : List Rg}
theorem isR_eq (h : Has s L) {c k : Int} (hc : U64 c) (hk : U64 k) : isS s c k = isR L c k := by
  rw [Bool.eq_iff_iff, isR_iff]; exact h.maps c k hc hk
theorem okR_eq (h : Has s L) {o : O} (hf : o.fits) : okS s o = okR L o := by
  have e1 : (aget (kI o.c o.k) s.told).isNone = !(L.any (idR o.c o.k)) := by
    rw [Bool.eq_iff_iff]
    have ht := h.told o.c o.k hf.uc hf.uk
    have h2 : L.any (idR o.c o.k) = true ↔ ∃ x ∈ L, x.c = o.c ∧ x.k = o.k := by
      rw [List.any_eq_true]
      constructor
      · rintro ⟨x, hx, e⟩
        unfold idR at e
        simp only [Bool.and_eq_true, decide_eq_true_eq] at e
        exact ⟨x, hx, e⟩
      · rintro ⟨x, hx, e⟩
        exact ⟨x, hx, by unfold idR; simp [e]⟩
    rw [← h2] at ht
    cases e : aget (kI o.c o.k) s.told <;> cases e2 : L.any (idR o.c o.k) <;> simp [e, e2] at ht ⊢
  unfold okS okR
  rw [e1, isR_eq h hf.upc hf.upk]
theorem atR_iff {c k : Int} {ky : ByteArray} {o : O} : atR H c k ky o = true ↔ o.pc = c ∧ o.pk = k ∧ o.ky = ky ∧ hasB H o.c o.k = false := by
  unfold atR
  simp only [Bool.and_eq_true, decide_eq_true_eq, Bool.not_eq_true']
  constructor
  · rintro ⟨⟨⟨a, b⟩, c⟩, d⟩; exact ⟨a, b, c, d⟩
  · rintro ⟨a, b, c, d⟩; exact ⟨⟨⟨a, b⟩, c⟩, d⟩
theorem lessM_asym {a b : O} (h : lessM a b = true) : lessM b a = false := by rw [lessM_iff] at h; rw [lessM_not]; omega
/-- What the fold keeps: the greatest. -/
theorem best_fold (c k : Int) (ky : ByteArray) : ∀ (L : List O) (b : O × Bool), (b.2 = false → b.1 = zeroO) →
    ((L.foldl (stepR H c k ky) b) = b ∧ (∀ o ∈ L, atR H c k ky o = true → b.2 = true ∧ lessM b.1 o = false)) ∨
    (∃ x ∈ L, atR H c k ky x = true ∧ L.foldl (stepR H c k ky) b = (x, true) ∧ (∀ o ∈ L, atR H c k ky o = true → lessM x o = false) ∧ (b.2 = true → lessM b.1 x = true)) := by
  intro L
  induction L with
  | nil => intro b _; exact .inl ⟨rfl, fun o ho => by cases ho⟩
  | cons o L ih =>
    intro b hb
    rw [List.foldl_cons]
    by_cases hs : atR H c k ky o = true ∧ (b.2 = false ∨ lessM b.1 o = true)
    · have e : stepR H c k ky b o = (o, true) := if_pos hs
      rw [e]
      have hbo : b.2 = true → lessM b.1 o = true := fun q => by
        rcases hs.2 with h | h
        · rw [q] at h; cases h
        · exact h
      rcases ih (o, true) (fun h => by cases h) with ⟨e2, h2⟩ | ⟨x, hx, ha, e2, h2, h3⟩
      · refine .inr ⟨o, by simp, hs.1, e2, fun y hy hya => ?_, hbo⟩
        rcases List.mem_cons.1 hy with rfl | hy
        · exact lessM_ok.irr _
        · exact (h2 y hy hya).2
      · refine .inr ⟨x, by simp [hx], ha, e2, fun y hy hya => ?_, fun q => lessM_ok.trans _ _ _ (hbo q) (h3 rfl)⟩
        rcases List.mem_cons.1 hy with rfl | hy
        · exact lessM_asym (h3 rfl)
        · exact h2 y hy hya
    · have e : stepR H c k ky b o = b := if_neg hs
      rw [e]
      have ho : atR H c k ky o = true → b.2 = true ∧ lessM b.1 o = false := fun q => by
        by_cases h1 : b.2 = false
        · exact absurd ⟨q, .inl h1⟩ hs
        · refine ⟨by simpa using h1, ?_⟩
          by_cases h2 : lessM b.1 o = true
          · exact absurd ⟨q, .inr h2⟩ hs
          · simpa using h2
      rcases ih b hb with ⟨e2, h2⟩ | ⟨x, hx, ha, e2, h2, h3⟩
      · refine .inl ⟨e2, fun y hy hya => ?_⟩
        rcases List.mem_cons.1 hy with rfl | hy
        · exact ho hya
        · exact h2 y hy hya
      · refine .inr ⟨x, by simp [hx], ha, e2, fun y hy hya => ?_, h3⟩
        rcases List.mem_cons.1 hy with rfl | hy
        · have := ho hya
          exact lessM_asym (by
            by_cases q : lessM y x = true
            · exact q
            · have q : lessM y x = false := by simpa using q
              have := lessM_ok.neg _ _ _ this.2 q
              rw [h3 (ho hya).1] at this; cases this)
        · exact h2 y hy hya
theorem best_is (L : List O) (c k : Int) (ky : ByteArray) : (bestR H L c k ky = (zeroO, false) ∧ ∀ o ∈ L, ¬ atR H c k ky o = true) ∨ (∃ x ∈ L, atR H c k ky x = true ∧ bestR H L c k ky = (x, true) ∧ ∀ o ∈ L, atR H c k ky o = true → lessM x o = false) := by
  rcases best_fold c k ky L (zeroO, false) (fun _ => rfl) with ⟨e, h⟩ | ⟨x, hx, ha, e, h, _⟩
  · exact .inl ⟨e, fun o ho q => by have := (h o ho q).1; cases this⟩
  · exact .inr ⟨x, hx, ha, e, h⟩
theorem apart_eq (hA : Apart L) {a b : O} (ha : a ∈ L) (hb : b ∈ L) (e1 : a.c = b.c) (e2 : a.k = b.k) : a = b := by
  obtain ⟨i, hi, rfl⟩ := List.mem_iff_getElem.1 ha
  obtain ⟨j, hj, rfl⟩ := List.mem_iff_getElem.1 hb
  have := hA i j hi hj e1 e2
  subst this; rfl
/-- The program's answer is the document's, its NaN the one there is. -/
theorem getR_eq (h : Has s L) (hA : Apart L) (hH : ∀ c k, hasB s.hid c k = hasB H c k) {c k : Int} (hc : U64 c) (hk : U64 k) (ky : ByteArray) :
    (getS s c k ky = (zeroO, false) ∧ getR H L c k ky = (zeroO, false)) ∨ (∃ b ∈ L, b.pc = c ∧ b.pk = k ∧ b.ky = ky ∧ getS s c k ky = (cleanO b, true) ∧ getR H L c k ky = (b, true)) := by
  have hat : ∀ o, AtKey s c k ky o ↔ atR H c k ky o = true := fun o => by
    unfold AtKey shS
    rw [atR_iff, hH]
    simp
  rcases best_is (H := H) L c k ky with ⟨e, hn⟩ | ⟨x, hx, ha, e, hg⟩
  · refine .inl ⟨get_none h hc hk fun o ho q => hn o ho ((hat o).1 q), ?_⟩
    unfold getR; rw [e, if_neg (by simp)]
  · have hge := get_eq h hc hk hx ((hat x).2 ha) (fun o ho q => by
      have h1 := hg o ho ((hat o).1 q)
      by_cases h2 : lessM o x = true
      · exact .inr h2
      · refine .inl ?_
        have h2 : lessM o x = false := by simpa using h2
        rw [lessM_not] at h1 h2
        exact apart_eq hA ho hx (by omega) (by omega))
    have hr : getR H L c k ky = if x.vk ≠ 0 then (x, true) else (zeroO, false) := by
      unfold getR
      rw [e]
      by_cases hv : x.vk ≠ 0
      · rw [if_pos ⟨rfl, hv⟩, if_pos hv]
      · rw [if_neg (fun q => hv q.2), if_neg hv]
    obtain ⟨q1, q2, q3, _⟩ := atR_iff.1 ha
    by_cases hv : x.vk ≠ 0
    · rw [if_pos hv] at hge hr
      exact .inr ⟨x, hx, q1, q2, q3, hge, hr⟩
    · rw [if_neg hv] at hge hr
      exact .inl ⟨hge, hr⟩
theorem findR_eq (h : Has s L) (hA : Apart L) (hH : ∀ c k, hasB s.hid c k = hasB H c k) : ∀ (p : List Key) (c k : Int), U64 c → U64 k → findS s c k p = findR H L c k p
  | [], c, k, _, _ => rfl
  | x :: r, c, k, hc, hk => by
    rw [findS, findR]
    rcases getR_eq h hA hH hc hk (strK x) with ⟨e1, e2⟩ | ⟨b, hb, _, _, _, e1, e2⟩
    · rw [e1, e2, if_neg (by simp), if_neg (by simp)]
    · rw [e1, e2]
      have hf := (h.fits b hb).1
      by_cases hm : isMapB b = true
      · rw [if_pos ⟨rfl, hm⟩, if_pos ⟨rfl, hm⟩]
        exact findR_eq h hA hH r b.c b.k hf.uc hf.uk
      · rw [if_neg (fun q => hm q.2), if_neg (fun q => hm q.2)]
/-- A key comes in once, in its place. -/
theorem insK_spec : ∀ (l : List Key) (x : Key), l.Pairwise (fun a b => bytesBefore a b = true) → (insK l x).Pairwise (fun a b => bytesBefore a b = true) ∧ ∀ y, y ∈ insK l x ↔ y = x ∨ y ∈ l
  | [], x, _ => ⟨List.pairwise_singleton _ _, fun y => by simp [insK]⟩
  | z :: l, x, h => by
    have hz := List.pairwise_cons.1 h
    obtain ⟨i1, i2⟩ := insK_spec l x hz.2
    unfold insK
    by_cases h1 : bytesBefore z x = true
    · rw [if_pos h1]
      refine ⟨List.pairwise_cons.2 ⟨fun y hy => ?_, i1⟩, fun y => ?_⟩
      · rcases (i2 y).1 hy with rfl | hy
        · exact h1
        · exact hz.1 y hy
      · rw [List.mem_cons, i2, List.mem_cons]
        constructor
        · rintro (a | a | a)
          · exact .inr (.inl a)
          · exact .inl a
          · exact .inr (.inr a)
        · rintro (a | a | a)
          · exact .inr (.inl a)
          · exact .inl a
          · exact .inr (.inr a)
    · rw [if_neg h1]
      by_cases h2 : z = x
      · rw [if_pos h2]
        refine ⟨h, fun y => ⟨fun q => .inr q, fun q => ?_⟩⟩
        rcases q with rfl | q
        · rw [h2]; simp
        · exact q
      · rw [if_neg h2]
        have h3 : bytesBefore x z = true := before_total z x h2 (by simpa using h1)
        refine ⟨List.pairwise_cons.2 ⟨fun y hy => ?_, h⟩, fun y => by rw [List.mem_cons]⟩
        rcases List.mem_cons.1 hy with rfl | hy
        · exact h3
        · exact before_trans _ _ _ h3 (hz.1 y hy)
theorem keys_fold (c k : Int) : ∀ (L : List O) (ks : List Key), ks.Pairwise (fun a b => bytesBefore a b = true) → (L.foldl (keyStep c k) ks).Pairwise (fun a b => bytesBefore a b = true) ∧ ∀ y, y ∈ L.foldl (keyStep c k) ks ↔ y ∈ ks ∨ ∃ o ∈ L, o.pc = c ∧ o.pk = k ∧ o.ky.data.toList = y
  | [], ks, h => ⟨h, fun y => by simp⟩
  | o :: L, ks, h => by
    rw [List.foldl_cons]
    unfold keyStep
    by_cases hi : inR c k o = true
    · rw [if_pos hi]
      have he : o.pc = c ∧ o.pk = k := by unfold inR at hi; simpa using hi
      obtain ⟨a1, a2⟩ := insK_spec ks o.ky.data.toList h
      obtain ⟨b1, b2⟩ := keys_fold c k L _ a1
      refine ⟨b1, fun y => (b2 y).trans ?_⟩
      rw [a2]
      constructor
      · rintro ((e | q) | ⟨x, hx, q⟩)
        · exact .inr ⟨o, by simp, he.1, he.2, e.symm⟩
        · exact .inl q
        · exact .inr ⟨x, by simp [hx], q⟩
      · rintro (q | ⟨x, hx, q⟩)
        · exact .inl (.inr q)
        · rcases List.mem_cons.1 hx with rfl | hx
          · exact .inl (.inl q.2.2.symm)
          · exact .inr ⟨x, hx, q⟩
    · rw [if_neg hi]
      obtain ⟨b1, b2⟩ := keys_fold c k L ks h
      refine ⟨b1, fun y => (b2 y).trans ?_⟩
      constructor
      · rintro (q | ⟨x, hx, q⟩)
        · exact .inl q
        · exact .inr ⟨x, by simp [hx], q⟩
      · rintro (q | ⟨x, hx, q⟩)
        · exact .inl q
        · rcases List.mem_cons.1 hx with rfl | hx
          · exact absurd (by unfold inR; simp [q.1, q.2.1]) hi
          · exact .inr ⟨x, hx, q⟩
theorem keysR_spec (L : List O) (c k : Int) : (keysR L c k).Pairwise (fun a b => bytesBefore a b = true) ∧ ∀ y, y ∈ keysR L c k ↔ ∃ o ∈ L, o.pc = c ∧ o.pk = k ∧ o.ky.data.toList = y := by
  obtain ⟨a, b⟩ := keys_fold c k L [] List.Pairwise.nil
  exact ⟨a, fun y => (b y).trans ⟨fun q => by rcases q with q | q; · cases q
                                              · exact q, .inr⟩⟩
theorem keysR_eq (h : Has s L) {c k : Int} (hc : U64 c) (hk : U64 k) : keysS s c k = keysR L c k := keys_eq h hc hk (keysR_spec L c k).1 (keysR_spec L c k).2
theorem getR_some {c k : Int} {ky : ByteArray} : (getR H L c k ky = (zeroO, false)) ∨ (∃ b ∈ L, b.pc = c ∧ b.pk = k ∧ b.ky = ky ∧ getR H L c k ky = (b, true)) := by
  rcases best_is (H := H) L c k ky with ⟨e, hn⟩ | ⟨x, hx, ha, e, hg⟩
  · refine .inl ?_
    unfold getR; rw [e, if_neg (by simp)]
  · have hr : getR H L c k ky = if x.vk ≠ 0 then (x, true) else (zeroO, false) := by
      unfold getR
      rw [e]
      by_cases hv : x.vk ≠ 0
      · rw [if_pos ⟨rfl, hv⟩, if_pos hv]
      · rw [if_neg (fun q => hv q.2), if_neg hv]
    obtain ⟨q1, q2, q3, _⟩ := atR_iff.1 ha
    by_cases hv : x.vk ≠ 0
    · rw [if_pos hv] at hr
      exact .inr ⟨x, hx, q1, q2, q3, hr⟩
    · rw [if_neg hv] at hr
      exact .inl hr
end
end Go.Proofs.YtodpdcflbnomgaaGreat

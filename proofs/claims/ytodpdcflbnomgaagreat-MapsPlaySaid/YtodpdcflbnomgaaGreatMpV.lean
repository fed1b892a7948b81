/- Package maps: what a Maps holds, by the list of the sets that were laid. No Go in it. -/
import Derived.Test.YtodpdcflbnomgaaGreatPart15
namespace Go.Proofs.YtodpdcflbnomgaaGreat
open Go.RowKit Go.Maps
set_option linter.unusedVariables false
set_option linter.unusedSimpArgs false
set_option maxRecDepth 100000

theorem lessM_iff {a b : O} : lessM a b = true ↔ a.st < b.st ∨ (a.st = b.st ∧ (a.c < b.c ∨ (a.c = b.c ∧ a.k < b.k))) := by
  unfold lessM
  by_cases h : a.st = b.st
  · rw [if_pos h, lessI_iff]
    constructor
    · intro q; exact .inr ⟨h, q⟩
    · rintro (q | q)
      · omega
      · exact q.2
  · rw [if_neg h, decide_eq_true_iff]
    constructor
    · intro q; exact .inl q
    · rintro (q | q)
      · exact q
      · exact absurd q.1 h
theorem lessM_not {a b : O} : lessM a b = false ↔ ¬ (a.st < b.st ∨ (a.st = b.st ∧ (a.c < b.c ∨ (a.c = b.c ∧ a.k < b.k)))) := by rw [← lessM_iff]; simp
theorem lessM_ok : LtOk lessM where
  irr a := lessM_not.2 (by omega)
  trans a b c h1 h2 := by rw [lessM_iff] at *; omega
  neg a b c h1 h2 := by rw [lessM_not] at *; omega
abbrev HOk (l : List O) : Prop := @Heap.Ok O ⟨zeroO⟩ lessM l
theorem withL_spec {r : List O} {o : O} (h : HOk r) : HOk (withL r o) ∧ (withL r o).length = r.length + 1 ∧ ∀ x, x ∈ withL r o ↔ x ∈ r ∨ x = o := @Heap.with_spec O ⟨zeroO⟩ lessM lessM_ok r o h
/-- The greatest that is shown. -/
theorem great_is {sh : Int → Int → Bool} {r : List O} (h : HOk r) : (hasO sh r = false ∧ ∀ x ∈ r, sh x.c x.k = false) ∨ (hasO sh r = true ∧ greatO sh r ∈ r ∧ sh (greatO sh r).c (greatO sh r).k = true ∧ ∀ x ∈ r, sh x.c x.k = true → lessM (greatO sh r) x = false) := by
  have hg := @Heap.great_spec O ⟨zeroO⟩ lessM lessM_ok (fun o => sh o.c o.k) r h
  rcases hg with ⟨e, ha⟩ | ⟨n, e, h1, h2, h3, h4⟩
  · refine .inl ⟨?_, ha⟩
    unfold hasO
    rw [show fromO sh r 0 = -1 from e]; rfl
  · have e' : fromO sh r 0 = n := e
    have eg : greatO sh r = r.getD n zeroO := by unfold greatO; rw [e', if_neg (by omega), Int.toNat_natCast]
    refine .inr ⟨?_, ?_, ?_, ?_⟩
    · unfold hasO; rw [e']; exact decide_eq_true (by omega)
    · rw [eg]; exact h2
    · rw [eg]; exact h3
    · rw [eg]; exact h4
/-- What a Maps holds, whose sets were L. -/
structure Has (s : MS) (L : List O) : Prop where
  told : ∀ c k, U64 c → U64 k → ((aget (kI c k) s.told).isSome = true ↔ ∃ o ∈ L, o.c = c ∧ o.k = k)
  maps : ∀ c k, U64 c → U64 k → (isS s c k = true ↔ (c = 0 ∧ k = 0) ∨ ∃ o ∈ L, isMapB o = true ∧ o.c = c ∧ o.k = k)
  par : ∀ o ∈ L, isS s o.pc o.pk = true
  rank : ∀ c k ky, U64 c → U64 k → ∀ x, x ∈ rankS s c k ky ↔ ∃ o ∈ L, x = cleanO o ∧ o.pc = c ∧ o.pk = k ∧ o.ky = ky
  heap : ∀ c k ky, U64 c → U64 k → HOk (rankS s c k ky)
  keys : ∀ c k, U64 c → U64 k → (keysS s c k).Pairwise (fun a b => bytesBefore a b = true) ∧ ∀ ky, ky ∈ keysS s c k ↔ ∃ o ∈ L, o.pc = c ∧ o.pk = k ∧ o.ky.data.toList = ky
  fits : ∀ o ∈ L, o.fits ∧ o.ky.size ≤ 281474976710656 ∧ numOk o.c = true ∧ numOk o.k = true
theorem HOk_nil : HOk [] := fun i _ h => by simp at h
theorem has_new : Has newS [] where
  told c k _ _ := by simp [newS, aget]
  maps c k hc hk := by
    unfold isS newS
    simp only [aget, List.not_mem_nil, false_and, exists_false, or_false]
    by_cases h : kI 0 0 = kI c k
    · have := kI_inj u64_zero u64_zero hc hk h
      simp [h, this.1.symm, this.2.symm]
    · constructor
      · intro q
        simp [h] at q
      · rintro ⟨rfl, rfl⟩; exact absurd rfl h
  par o ho := by cases ho
  rank c k ky hc hk x := by
    unfold rankS newS
    simp only [aget]
    by_cases h : kI 0 0 = kI c k
    · simp [h, aget]
    · simp [h, aget]
  heap c k ky hc hk := by
    have : rankS newS c k ky = [] := by
      unfold rankS newS
      simp only [aget]
      by_cases h : kI 0 0 = kI c k
      · simp [h, aget]
      · simp [h, aget]
    rw [this]; exact HOk_nil
  keys c k hc hk := by
    have : keysS newS c k = [] := by
      unfold keysS newS
      simp only [aget]
      by_cases h : kI 0 0 = kI c k
      · simp [h]
      · simp [h]
    rw [this]; exact ⟨List.Pairwise.nil, fun ky => by simp⟩
  fits o ho := by cases ho
theorem Has.hide {s : MS} {L : List O} (h : Has s L) (r : List Rg) : Has { s with hid := r } L := ⟨h.told, h.maps, h.par, h.rank, h.heap, h.keys, h.fits⟩
/-- What is in a Maps' lists is in order. -/
structure Ord (s : MS) : Prop where
  told : Rising s.told
  keys : Rising s.keys
  inn : ∀ p ∈ s.keys, Rising p.2
theorem aget_aput {α : Type} (k k' : Key) (x : α) (l : List (Key × α)) : aget k' (aput k x l) = if k = k' then some x else aget k' l := by
  by_cases h : k = k'
  · rw [if_pos h, ← h, aget_aput_same]
  · rw [if_neg h, aget_aput_other h]
section
variable {s : MS} {L : List O} {o : O}
theorem ok_parts (h : okS s o = true) : o.kind = 4 ∧ numOk o.c = true ∧ numOk o.k = true ∧ isS s o.pc o.pk = true ∧ aget (kI o.c o.k) s.told = none := by
  unfold okS at h
  rw [Bool.and_eq_true, Bool.and_eq_true, Bool.and_eq_true, Bool.and_eq_true, decide_eq_true_iff] at h
  refine ⟨h.1.1.1, h.1.1.2.1, h.1.1.2.2, h.1.2, ?_⟩
  have := h.2
  cases e : aget (kI o.c o.k) s.told with
  | none => rfl
  | some x => rw [e] at this; cases this
/-- The keys' lists behind a set. -/
theorem keys_set (hf : o.fits) (hok : okS s o = true) {c k : Int} (hc : U64 c) (hk : U64 k) : aget (kI c k) (setS s o).keys = if isMapB o = true ∧ c = o.c ∧ k = o.k then some [] else if c = o.pc ∧ k = o.pk then
    some (aput o.ky.data.toList (withL ((aget o.ky.data.toList ((aget (kI o.pc o.pk) s.keys).getD [])).getD []) (cleanO o)) ((aget (kI o.pc o.pk) s.keys).getD [])) else aget (kI c k) s.keys := by
  have e1 : (kI o.c o.k = kI c k) ↔ (c = o.c ∧ k = o.k) := ⟨fun h => by have := kI_inj hf.uc hf.uk hc hk h; exact ⟨this.1.symm, this.2.symm⟩, fun h => by rw [h.1, h.2]⟩
  have e2 : (kI o.pc o.pk = kI c k) ↔ (c = o.pc ∧ k = o.pk) := ⟨fun h => by have := kI_inj hf.upc hf.upk hc hk h; exact ⟨this.1.symm, this.2.symm⟩, fun h => by rw [h.1, h.2]⟩
  unfold setS
  rw [if_pos hok]
  by_cases hm : isMapB o = true
  · rw [if_pos hm]
    show aget (kI c k) (aput (kI o.c o.k) [] (laidS s o).keys) = _
    rw [aget_aput]
    by_cases h1 : c = o.c ∧ k = o.k
    · rw [if_pos (e1.2 h1), if_pos ⟨hm, h1⟩]
    · rw [if_neg (fun h => h1 (e1.1 h)), if_neg (fun h => h1 h.2)]
      unfold laidS
      simp only
      rw [aget_aput]
      by_cases h2 : c = o.pc ∧ k = o.pk
      · rw [if_pos (e2.2 h2), if_pos h2]
      · rw [if_neg (fun h => h2 (e2.1 h)), if_neg h2]
  · rw [if_neg hm, if_neg (fun h => hm h.1)]
    unfold laidS
    simp only
    rw [aget_aput]
    by_cases h2 : c = o.pc ∧ k = o.pk
    · rw [if_pos (e2.2 h2), if_pos h2]
    · rw [if_neg (fun h => h2 (e2.1 h)), if_neg h2]
theorem told_set (hok : okS s o = true) : (setS s o).told = aput (kI o.c o.k) () s.told := by
  unfold setS
  rw [if_pos hok]
  by_cases hm : isMapB o = true
  · rw [if_pos hm]; rfl
  · rw [if_neg hm]; rfl
theorem hid_set : (setS s o).hid = s.hid := by
  unfold setS
  split
  · split <;> rfl
  · rfl
theorem str_inj {a b : ByteArray} (h : a.data.toList = b.data.toList) : a = b := by
  obtain ⟨a⟩ := a; obtain ⟨b⟩ := b
  simp only at h
  rw [Array.toList_inj.1 h]
theorem num_u64 {x : Int} (h : numOk x = true) : x ≠ 0 := by rw [numOk_iff] at h; omega
/-- The rank of a key behind a set. -/
theorem rank_set (h : Has s L) (hf : o.fits) (hok : okS s o = true) {c k : Int} (hc : U64 c) (hk : U64 k) (ky : ByteArray) :
    rankS (setS s o) c k ky = if c = o.pc ∧ k = o.pk ∧ ky = o.ky then withL (rankS s c k ky) (cleanO o) else rankS s c k ky := by
  obtain ⟨h1, h2, h3, h4, h5⟩ := ok_parts hok
  have hnm : isS s o.c o.k = false := by
    rw [Bool.eq_false_iff]
    intro q
    rcases (h.maps _ _ hf.uc hf.uk).1 q with e | ⟨o', ho', _, e1, e2⟩
    · exact num_u64 h2 e.1
    · have := (h.told _ _ hf.uc hf.uk).2 ⟨o', ho', e1, e2⟩
      rw [h5] at this; cases this
  unfold rankS
  rw [keys_set hf hok hc hk]
  by_cases q1 : isMapB o = true ∧ c = o.c ∧ k = o.k
  · rw [if_pos q1]
    have q2 : ¬ (c = o.pc ∧ k = o.pk ∧ ky = o.ky) := by
      rintro ⟨e1, e2, _⟩
      rw [← e1, ← e2, q1.2.1, q1.2.2, hnm] at h4; cases h4
    rw [if_neg q2, q1.2.1, q1.2.2]
    have : aget (kI o.c o.k) s.keys = none := by
      unfold isS at hnm
      cases e : aget (kI o.c o.k) s.keys with
      | none => rfl
      | some x => rw [e] at hnm; cases hnm
    rw [this]
    rfl
  · rw [if_neg q1]
    by_cases q2 : c = o.pc ∧ k = o.pk
    · rw [if_pos q2]
      simp only [Option.getD_some]
      rw [aget_aput]
      by_cases q3 : o.ky.data.toList = ky.data.toList
      · rw [if_pos q3, if_pos ⟨q2.1, q2.2, (str_inj q3).symm⟩, q2.1, q2.2, q3]; rfl
      · rw [if_neg q3, if_neg (by rintro ⟨_, _, e⟩; exact q3 (by rw [e])), q2.1, q2.2]
    · rw [if_neg q2, if_neg (by rintro ⟨e1, e2, _⟩; exact q2 ⟨e1, e2⟩)]
theorem aput_keys {α : Type} {k : Key} {x : α} {l : List (Key × α)} (h : Rising l) : ((aput k x l).map (·.1)).Pairwise (fun a b => bytesBefore a b = true) ∧ ∀ y, y ∈ (aput k x l).map (·.1) ↔ y = k ∨ y ∈ l.map (·.1) := by
  refine ⟨List.pairwise_map.2 h.aput, fun y => ?_⟩
  simp only [List.mem_map]
  constructor
  · rintro ⟨p, hp, rfl⟩
    rcases mem_aput.1 hp with rfl | ⟨hp, _⟩
    · exact .inl rfl
    · exact .inr ⟨p, hp, rfl⟩
  · rintro (rfl | ⟨p, hp, rfl⟩)
    · exact ⟨(y, x), mem_aput.2 (.inl rfl), rfl⟩
    · by_cases e : p.1 = k
      · exact ⟨(k, x), mem_aput.2 (.inl rfl), e.symm⟩
      · exact ⟨p, mem_aput.2 (.inr ⟨hp, e⟩), rfl⟩
theorem Has.set (h : Has s L) (hO : Ord s) (hf : o.fits) (hky : o.ky.size ≤ 281474976710656) (hok : okS s o = true) : Has (setS s o) (L ++ [o]) := by
  obtain ⟨h1, h2, h3, h4, h5⟩ := ok_parts hok
  have hms : ∀ c k, U64 c → U64 k → (isS (setS s o) c k = true ↔ isS s c k = true ∨ (isMapB o = true ∧ c = o.c ∧ k = o.k)) := fun c k hc hk => by
    unfold isS
    rw [keys_set hf hok hc hk]
    by_cases q1 : isMapB o = true ∧ c = o.c ∧ k = o.k
    · rw [if_pos q1]; simp [q1]
    · rw [if_neg q1]
      by_cases q2 : c = o.pc ∧ k = o.pk
      · rw [if_pos q2]
        have : (aget (kI c k) s.keys).isSome = true := by rw [q2.1, q2.2]; exact h4
        simp [this]
      · rw [if_neg q2]; simp [q1]
  refine ⟨fun c k hc hk => ?_, fun c k hc hk => ?_, fun x hx => ?_, fun c k ky hc hk x => ?_, fun c k ky hc hk => ?_, fun c k hc hk => ?_, fun x hx => ?_⟩
  · rw [told_set hok, aget_aput]
    by_cases q : kI o.c o.k = kI c k
    · have := kI_inj hf.uc hf.uk hc hk q
      rw [if_pos q]
      simp only [Option.isSome_some, true_iff]
      exact ⟨o, by simp, this⟩
    · rw [if_neg q, h.told c k hc hk]
      constructor
      · rintro ⟨x, hx, e⟩; exact ⟨x, by simp [hx], e⟩
      · rintro ⟨x, hx, e⟩
        rcases List.mem_append.1 hx with hx | hx
        · exact ⟨x, hx, e⟩
        · rw [List.mem_singleton] at hx
          subst hx
          exact absurd (by rw [e.1, e.2]) q
  · rw [hms c k hc hk, h.maps c k hc hk]
    constructor
    · rintro ((e | ⟨x, hx, e⟩) | ⟨e1, e2, e3⟩)
      · exact .inl e
      · exact .inr ⟨x, by simp [hx], e⟩
      · exact .inr ⟨o, by simp, e1, e2.symm, e3.symm⟩
    · rintro (e | ⟨x, hx, e⟩)
      · exact .inl (.inl e)
      · rcases List.mem_append.1 hx with hx | hx
        · exact .inl (.inr ⟨x, hx, e⟩)
        · rw [List.mem_singleton] at hx
          subst hx
          exact .inr ⟨e.1, e.2.1.symm, e.2.2.symm⟩
  · rcases List.mem_append.1 hx with hx | hx
    · have hfx := (h.fits x hx).1
      exact (hms _ _ hfx.upc hfx.upk).2 (.inl (h.par x hx))
    · rw [List.mem_singleton] at hx
      subst hx
      exact (hms _ _ hf.upc hf.upk).2 (.inl h4)
  · rw [rank_set h hf hok hc hk]
    by_cases q : c = o.pc ∧ k = o.pk ∧ ky = o.ky
    · rw [if_pos q, (withL_spec (h.heap c k ky hc hk)).2.2, h.rank c k ky hc hk]
      constructor
      · rintro (⟨y, hy, e⟩ | e)
        · exact ⟨y, by simp [hy], e⟩
        · exact ⟨o, by simp, e, q.1.symm, q.2.1.symm, q.2.2.symm⟩
      · rintro ⟨y, hy, e⟩
        rcases List.mem_append.1 hy with hy | hy
        · exact .inl ⟨y, hy, e⟩
        · rw [List.mem_singleton] at hy
          subst hy
          exact .inr e.1
    · rw [if_neg q, h.rank c k ky hc hk]
      constructor
      · rintro ⟨y, hy, e⟩; exact ⟨y, by simp [hy], e⟩
      · rintro ⟨y, hy, e⟩
        rcases List.mem_append.1 hy with hy | hy
        · exact ⟨y, hy, e⟩
        · rw [List.mem_singleton] at hy
          subst hy
          exact absurd ⟨e.2.1.symm, e.2.2.1.symm, e.2.2.2.symm⟩ q
  · rw [rank_set h hf hok hc hk]
    split
    · exact (withL_spec (h.heap c k ky hc hk)).1
    · exact h.heap c k ky hc hk
  · have hk0 := h.keys c k hc hk
    unfold keysS at hk0 ⊢
    rw [keys_set hf hok hc hk]
    have hpar : isMapB o = true ∧ c = o.c ∧ k = o.k → ∀ x ∈ L ++ [o], ¬ (x.pc = c ∧ x.pk = k) := by
      rintro q x hx ⟨e1, e2⟩
      have hp : isS s c k = true := by
        rcases List.mem_append.1 hx with hx | hx
        · rw [← e1, ← e2]; exact h.par x hx
        · rw [List.mem_singleton] at hx
          subst hx
          rw [← e1, ← e2]; exact h4
      rcases (h.maps _ _ hc hk).1 hp with e | ⟨o', ho', _, e3, e4⟩
      · exact num_u64 h2 (by rw [← q.2.1]; exact e.1)
      · have := (h.told _ _ hf.uc hf.uk).2 ⟨o', ho', by rw [e3, q.2.1], by rw [e4, q.2.2]⟩
        rw [h5] at this; cases this
    by_cases q1 : isMapB o = true ∧ c = o.c ∧ k = o.k
    · rw [if_pos q1]
      refine ⟨List.Pairwise.nil, fun ky => ?_⟩
      constructor
      · intro q; cases q
      · rintro ⟨x, hx, e1, e2, _⟩
        exact absurd ⟨e1, e2⟩ (hpar q1 x hx)
    · rw [if_neg q1]
      by_cases q2 : c = o.pc ∧ k = o.pk
      · rw [if_pos q2]
        have hr : Rising ((aget (kI o.pc o.pk) s.keys).getD []) := by
          cases e : aget (kI o.pc o.pk) s.keys with
          | none => exact List.Pairwise.nil
          | some m => exact hO.inn _ (aget_mem e)
        have ha := aput_keys (k := o.ky.data.toList) (x := withL ((aget o.ky.data.toList ((aget (kI o.pc o.pk) s.keys).getD [])).getD []) (cleanO o)) hr
        refine ⟨ha.1, fun ky => ?_⟩
        rw [q2.1, q2.2] at hk0
        refine (ha.2 ky).trans ?_
        rw [hk0.2, q2.1, q2.2]
        constructor
        · rintro (e | ⟨x, hx, e⟩)
          · exact ⟨o, by simp, rfl, rfl, e.symm⟩
          · exact ⟨x, by simp [hx], e⟩
        · rintro ⟨x, hx, e⟩
          rcases List.mem_append.1 hx with hx | hx
          · exact .inr ⟨x, hx, e⟩
          · rw [List.mem_singleton] at hx
            subst hx
            exact .inl e.2.2.symm
      · rw [if_neg q2]
        refine ⟨hk0.1, fun ky => ?_⟩
        rw [hk0.2]
        constructor
        · rintro ⟨x, hx, e⟩; exact ⟨x, by simp [hx], e⟩
        · rintro ⟨x, hx, e⟩
          rcases List.mem_append.1 hx with hx | hx
          · exact ⟨x, hx, e⟩
          · rw [List.mem_singleton] at hx
            subst hx
            exact absurd ⟨e.1.symm, e.2.1.symm⟩ q2
  · rcases List.mem_append.1 hx with hx | hx
    · exact h.fits x hx
    · rw [List.mem_singleton] at hx
      subst hx
      exact ⟨hf, hky, h2, h3⟩
theorem Ord.set (h : Ord s) (o : O) : Ord (setS s o) := by
  unfold setS
  split
  · have hr : Rising ((aget (kI o.pc o.pk) s.keys).getD []) := by
      cases e : aget (kI o.pc o.pk) s.keys with
      | none => exact List.Pairwise.nil
      | some m => exact h.inn _ (aget_mem e)
    have h1 : Ord (laidS s o) := by
      refine ⟨h.told.aput, h.keys.aput, fun p hp => ?_⟩
      rcases mem_aput.1 hp with rfl | ⟨hp, _⟩
      · exact hr.aput
      · exact h.inn p hp
    split
    · refine ⟨h1.told, h1.keys.aput, fun p hp => ?_⟩
      rcases mem_aput.1 hp with rfl | ⟨hp, _⟩
      · exact List.Pairwise.nil
      · exact h1.inn p hp
    · exact h1
  · exact h
theorem Ord.hide (h : Ord s) (r : List Rg) : Ord { s with hid := r } := ⟨h.told, h.keys, h.inn⟩
theorem ord_new : Ord newS := ⟨List.Pairwise.nil, List.pairwise_singleton _ _, fun p hp => by
  simp only [newS, List.mem_singleton] at hp
  subst hp; exact List.Pairwise.nil⟩
/-- It has no more than so many sets. -/
structure Cnt (n : Nat) (s : MS) : Prop where
  told : s.told.length ≤ n
  keys : s.keys.length ≤ n + 1
  ranks : ∀ p ∈ s.keys, p.2.length ≤ n
  sets : ∀ p ∈ s.keys, ∀ q ∈ p.2, q.2.length ≤ n
theorem Cnt.small {n : Nat} (h : Cnt n s) (hn : n ≤ 99999) : SmallS s := ⟨by have := h.told; omega, by have := h.keys; omega, fun p hp => by have := h.ranks p hp; omega, fun p hp q hq => by have := h.sets p hp q hq; omega⟩
theorem cnt_new : Cnt 0 newS := ⟨Nat.le_refl _, Nat.le_refl _, fun p hp => by
  simp only [newS, List.mem_singleton] at hp
  subst hp; exact Nat.le_refl _, fun p hp q hq => by
  simp only [newS, List.mem_singleton] at hp
  subst hp; cases hq⟩
theorem Cnt.hide {n : Nat} (h : Cnt n s) (r : List Rg) : Cnt n { s with hid := r } := ⟨h.told, h.keys, h.ranks, h.sets⟩
theorem Cnt.set {n : Nat} (h : Cnt n s) (o : O) : Cnt (n + 1) (setS s o) := by
  have hup : Cnt (n + 1) s := ⟨by have := h.told; omega, by have := h.keys; omega, fun p hp => by have := h.ranks p hp; omega, fun p hp q hq => by have := h.sets p hp q hq; omega⟩
  unfold setS
  split
  · rename_i hok
    obtain ⟨-, -, -, h4, -⟩ := ok_parts hok
    obtain ⟨m, hm⟩ : ∃ m, aget (kI o.pc o.pk) s.keys = some m := by
      unfold isS at h4
      cases e : aget (kI o.pc o.pk) s.keys with
      | none => rw [e] at h4; cases h4
      | some m => exact ⟨m, rfl⟩
    have hmem := aget_mem hm
    have hle : ∀ {α : Type} (k : Key) (x : α) (l : List (Key × α)), (aput k x l).length ≤ l.length + 1 := fun k x l => length_aput_le k x l
    have hsame : (laidS s o).keys.length ≤ s.keys.length := by
      show (aput (kI o.pc o.pk) _ s.keys).length ≤ _
      rw [aput, length_ains]
      have : (adel (kI o.pc o.pk) s.keys).length < s.keys.length := by
        unfold adel
        exact List.length_filter_lt_length_iff_exists.2 ⟨_, hmem, by simp⟩
      omega
    have h1 : (laidS s o).told.length ≤ n + 1 := Nat.le_trans (hle _ _ _) (by have := h.told; omega)
    have h2 : ∀ p ∈ (laidS s o).keys, p.2.length ≤ n + 1 ∧ ∀ q ∈ p.2, q.2.length ≤ n + 1 := by
      intro p hp
      rcases mem_aput.1 hp with rfl | ⟨hp, _⟩
      · simp only [hm, Option.getD_some]
        refine ⟨Nat.le_trans (hle _ _ _) (by have := h.ranks _ hmem; simp only at this; omega), fun q hq => ?_⟩
        rcases mem_aput.1 hq with rfl | ⟨hq, _⟩
        · simp only
          rw [withL_length]
          cases e : aget o.ky.data.toList m with
          | none => simp
          | some r =>
            have := h.sets _ hmem _ (aget_mem e)
            simp only at this
            simp only [Option.getD_some]
            omega
        · have := h.sets _ hmem q hq; omega
      · exact ⟨hup.ranks p hp, hup.sets p hp⟩
    split
    · refine ⟨h1, Nat.le_trans (hle _ _ _) (by have := h.keys; omega), fun p hp => ?_, fun p hp q hq => ?_⟩
      · rcases mem_aput.1 hp with rfl | ⟨hp, _⟩
        · exact Nat.zero_le _
        · exact (h2 p hp).1
      · rcases mem_aput.1 hp with rfl | ⟨hp, _⟩
        · cases hq
        · exact (h2 p hp).2 q hq
    · exact ⟨h1, Nat.le_trans hsame hup.keys, fun p hp => (h2 p hp).1, fun p hp => (h2 p hp).2⟩
  · exact hup
end
end Go.Proofs.YtodpdcflbnomgaaGreat

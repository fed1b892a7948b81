/- Package maps: what Set's writes leave of a Maps in memory. -/
import Derived.Test.YtegldlfbmaapiaaPart13
namespace Go.Proofs.Ytegldlfbmaapiaa
open Go.RowKit Go.Maps
set_option linter.unusedVariables false
set_option linter.unusedSimpArgs false
set_option maxRecDepth 100000

theorem length_ains {α : Type} (k : Key) (x : α) : ∀ l : List (Key × α), (ains k x l).length = l.length + 1
  | [] => rfl
  | y :: r => by
    unfold ains; split
    · rfl
    · simp only [List.length_cons, length_ains k x r]
theorem length_aput_le {α : Type} (k : Key) (x : α) (l : List (Key × α)) : (aput k x l).length ≤ l.length + 1 := by
  rw [aput, length_ains]
  have := List.length_filter_le (fun p : Key × α => !(p.1 == k)) l
  unfold adel
  omega
theorem ownsM_tightV {w : World} {ty : TypeId} {b n : Nat} {α : Type} {f : α → Value} {es : List (Key × α)} (h : w.ownsMap Try.prog ty heldO b n (toV (amap f es))) : w.ownsMap Try.prog ty heldO b es.length (toV (amap f es)) := by
  have := ownsM_tight h
  rwa [length_amap] at this
theorem ains_min {α : Type} {k : Key} {x : α} : ∀ {l : List (Key × α)}, (∀ p ∈ l, bytesBefore k p.1 = true) → ains k x l = (k, x) :: l
  | [], _ => rfl
  | y :: r, h => by unfold ains; rw [if_pos (h y (by simp))]
/-- What is there already. -/
theorem aput_same {α : Type} {k : Key} {x : α} : ∀ {l : List (Key × α)}, Rising l → aget k l = some x → aput k x l = l
  | [], _, h => by simp [aget] at h
  | y :: r, hr, h => by
    have h' := List.pairwise_cons.1 hr
    by_cases e : y.1 = k
    · have hx : y.2 = x := by simp [aget, e] at h; exact h
      have hn : aget k r = none := aget_none.2 fun p hp => fun e2 => before_ne (h'.1 p hp) (e.trans e2.symm)
      have hd : adel k (y :: r) = r := by
        have : adel k (y :: r) = adel k r := by simp [adel, e]
        rw [this, adel_id hn]
      rw [aput, hd, ains_min (fun p hp => by rw [← e]; exact h'.1 p hp), ← hx, ← e]
    · have h2 : aget k r = some x := by simpa [aget, e] using h
      have ih := aput_same h'.2 h2
      have hd : adel k (y :: r) = y :: adel k r := by simp [adel, e]
      have hb : ¬ bytesBefore k y.1 = true := by
        intro hb
        have := before_trans _ _ _ hb (h'.1 _ (aget_mem h2))
        rw [before_irrefl] at this; cases this
      rw [aput, hd]
      unfold ains
      rw [if_neg hb]
      rw [aput] at ih
      rw [ih]
section
variable {w : World} {g mt mk : Nat} {hv : Value} {os : List (Key × Inn)} {s : MS}
theorem notMapCells {w : World} {b n : Nat} {ty t : TypeId} {D : DataW Value} (h : w.ownsMap Try.prog ty heldO b n D) {c : Array Value} (hc : w.heap[b]? = some (.cells c t (0, 0))) : False := by
  obtain ⟨_, _, hb, _⟩ := h
  rw [hb] at hc
  cases hc
theorem MapsC.ne_tg (h : MapsC w g mt mk hv os s) : mt ≠ g := by rintro rfl; exact notMapCells h.told h.cells
theorem MapsC.ne_kg (h : MapsC w g mt mk hv os s) : mk ≠ g := by rintro rfl; exact notMapCells h.keys h.cells
theorem MapsC.ne_bg (h : MapsC w g mt mk hv os s) {p : Key × Inn} (hp : p ∈ os) : p.2.b ≠ g := fun e => notMapCells (h.inn p hp).owns (by rw [e]; exact h.cells)
theorem MapsC.ne_bt (h : MapsC w g mt mk hv os s) {p : Key × Inn} (hp : p ∈ os) : p.2.b ≠ mt := by
  obtain ⟨ob, h1, h2, h3⟩ := h.own
  intro e
  have := h3 p hp
  rw [e, h1] at this; cases this
theorem MapsC.ne_bk (h : MapsC w g mt mk hv os s) {p : Key × Inn} (hp : p ∈ os) : p.2.b ≠ mk := by
  obtain ⟨ob, h1, h2, h3⟩ := h.own
  intro e
  have := h3 p hp
  rw [e, h2] at this; cases this
theorem MapsC.ne_bb (h : MapsC w g mt mk hv os s) {p q : Key × Inn} (hp : p ∈ os) (hq : q ∈ os) (hne : p.1 ≠ q.1) : p.2.b ≠ q.2.b := by
  obtain ⟨ob, h1, h2, h3⟩ := h.own
  intro e
  have a := h3 p hp
  rw [e, h3 q hq] at a
  exact hne (Option.some.inj a).symm
/-- A row's block is none of the others'. -/
theorem MapsC.row_ne (h : MapsC w g mt mk hv os s) {v : Value} {xs : List Value} {n : Nat} (hr : w.ownsRow 0 41 22 v n xs) {k : Nat} (hk : v.ownBlock = some k) : k ≠ g ∧ k ≠ mt ∧ k ≠ mk ∧ hv.ownBlock ≠ some k ∧ ∀ p ∈ os, k ≠ p.2.b := by
  obtain ⟨c, hc⟩ := row_ltM hr hk
  refine ⟨?_, ?_, ?_, ?_, ?_⟩
  · rintro rfl
    rw [h.cells] at hc
    simp at hc
  · rintro rfl; exact notMapCells h.told hc
  · rintro rfl; exact notMapCells h.keys hc
  · intro e
    obtain ⟨c2, hc2⟩ := row_ltM h.hidR e
    rw [hc] at hc2
    simp at hc2
  · rintro p hp rfl; exact notMapCells (h.inn p hp).owns hc
theorem MapsC.hid_ne (h : MapsC w g mt mk hv os s) {k : Nat} (hk : hv.ownBlock = some k) : k ≠ g ∧ k ≠ mt ∧ k ≠ mk ∧ ∀ p ∈ os, k ≠ p.2.b := by
  obtain ⟨c, hc⟩ := row_ltM h.hidR hk
  refine ⟨?_, ?_, ?_, ?_⟩
  · rintro rfl
    rw [h.cells] at hc
    simp at hc
  · rintro rfl; exact notMapCells h.told hc
  · rintro rfl; exact notMapCells h.keys hc
  · rintro p hp rfl; exact notMapCells (h.inn p hp).owns hc
theorem MapsC.rows_ne (h : MapsC w g mt mk hv os s) {p : Key × Inn} (hp : p ∈ os) {q : Key × Rk} (hq : q ∈ p.2.es) {k : Nat} (hk : q.2.v.ownBlock = some k) : k ≠ g ∧ k ≠ mt ∧ k ≠ mk ∧ hv.ownBlock ≠ some k ∧ ∀ p ∈ os, k ≠ p.2.b := h.row_ne ((h.inn p hp).rows q hq) hk

/-- An id more is told. -/
theorem MapsC.toldPut (h : MapsC w g mt mk hv os s) {w' : World} {n : Nat} {k : Key} (ho : ToldAt w' mt n (aput k (.agg #[]) (amap (fun _ => .agg #[]) s.told))) (ht : w.mapTurned w' mt) :
    MapsC w' g mt mk hv os { s with told := aput k () s.told } := by
  have t := turned_touch ht
  have ho2 : w'.ownsMap Try.prog 34 heldO mt n (toV (amap (fun _ : Unit => Value.agg #[]) (aput k () s.told))) := by rw [amap_aput]; exact ho
  refine ⟨?_, ownsM_tightV ho2, owns_touchM h.keys t (fun e => h.tk e.symm), h.rtold.aput, h.rkeys, row_touchM h.hidR t (fun k hk e => (h.hid_ne hk).2.1 e), h.hidF, h.hidL, fun p hp => ?_, h.eq, h.tk, h.own, h.rown⟩
  · rw [t.block g (lt_of_heap h.cells) (fun e => h.ne_tg e.symm)]; exact h.cells
  · exact (h.inn p hp).touch t (h.ne_bt hp) fun q hq k hk e => (h.rows_ne hp hq hk).2.1 e
/-- A rank laid anew in one of its maps. -/
theorem MapsC.rankPut (h : MapsC w g mt mk hv os s) {kp ky : Key} {i : Inn} (hi : aget kp os = some i) {r : Rk} (hr : r = (aget ky i.es).getD ⟨.slice none 0 0, []⟩) {w1 w2 : World} {v' : Value} {l' : List O}
    (h1 : RowOn w1 v' l') (hl' : l'.length ≤ 1000000) (t1 : Touch (fun k => r.v.ownBlock = some k) w w1) (hv' : v'.ownBlock = r.v.ownBlock ∨ ∃ k, v'.ownBlock = some k ∧ w.heap.size ≤ k) {n : Nat}
    (ho : RanksAt w2 i.b n (aput ky v' (amap Rk.v i.es))) (ht : w1.mapTurned w2 i.b) :
    MapsC w2 g mt mk hv (aput kp ⟨i.b, aput ky ⟨v', l'⟩ i.es⟩ os) { s with keys := aput kp (aput ky l' (innL i)) s.keys } ∧ Touch (fun k => k = i.b ∨ r.v.ownBlock = some k) w w2 := by
  have hip := aget_mem hi
  have t2 := turned_touch ht
  have t : Touch (fun k => k = i.b ∨ r.v.ownBlock = some k) w w2 := (t1.mono fun _ _ e => .inr e).trans (t2.mono fun _ _ e => .inl e)
  -- the old row's block
  have hrb : ∀ k, r.v.ownBlock = some k → k ≠ g ∧ k ≠ mt ∧ k ≠ mk ∧ hv.ownBlock ≠ some k ∧ (∀ p ∈ os, k ≠ p.2.b) ∧ ∃ q ∈ i.es, q.1 = ky ∧ q.2.v.ownBlock = some k := by
    intro k hk
    cases e : aget ky i.es with
    | none => rw [hr, e] at hk; simp [Value.ownBlock] at hk
    | some r0 =>
      have er : r = r0 := by rw [hr, e]; rfl
      rw [er] at hk
      have hm := aget_mem e
      have := h.rows_ne hip hm hk
      exact ⟨this.1, this.2.1, this.2.2.1, this.2.2.2.1, this.2.2.2.2, _, hm, rfl, hk⟩
  obtain ⟨rb, hrb2⟩ := h.rown
  -- rows of other keys lie elsewhere
  have hoth : ∀ p ∈ os, ∀ q ∈ p.2.es, (p.1 ≠ kp ∨ q.1 ≠ ky) → ∀ k, q.2.v.ownBlock = some k → ¬ (k = i.b ∨ r.v.ownBlock = some k) := by
    rintro p hp q hq hne k hk (e | e)
    · exact (h.rows_ne hp hq hk).2.2.2.2 _ hip e
    · obtain ⟨_, _, _, _, _, q2, hq2, e2, hk2⟩ := hrb k e
      have a := hrb2 p hp q hq k hk
      have b := hrb2 _ hip q2 hq2 k hk2
      rw [a] at b
      simp only [Option.some.injEq, Prod.mk.injEq] at b
      rcases hne with x | x
      · exact x b.1
      · exact x (b.2.trans e2)
  have hsz := t1.size
  refine ⟨⟨?_, ?_, ?_, h.rtold, h.rkeys.aput, ?_, h.hidF, h.hidL, ?_, ?_, h.tk, ?_, ?_⟩, t⟩
  · rw [t.block g (lt_of_heap h.cells) (by rintro (e | e); · exact h.ne_bg hip e.symm
                                           · exact (hrb _ e).1 rfl)]; exact h.cells
  · exact owns_touchM h.told t (by rintro (e | e); · exact h.ne_bt hip e.symm
                                   · exact (hrb _ e).2.1 rfl)
  · have e0 : amap innV (aput kp ⟨i.b, aput ky ⟨v', l'⟩ i.es⟩ os) = amap innV os := by
      rw [amap_aput]
      have hg2 : aget kp (amap innV os) = some (.map (some i.b)) := by rw [aget_amap, hi]; rfl
      exact aput_same (h.rkeys.amap innV) hg2
    have e1 : (aput kp (⟨i.b, aput ky ⟨v', l'⟩ i.es⟩ : Inn) os).length = os.length := by
      have := congrArg List.length e0
      rwa [length_amap, length_amap] at this
    rw [e0, e1]
    exact owns_touchM h.keys t (by rintro (e | e); · exact h.ne_bk hip e.symm
                                   · exact (hrb _ e).2.2.1 rfl)
  · exact row_touchM h.hidR t (by rintro k hk (e | e); · exact (h.hid_ne hk).2.2.2 _ hip e
                                  · exact (hrb k e).2.2.2.1 hk)
  · intro p hp
    rcases mem_aput.1 hp with rfl | ⟨hp, hne⟩
    · have hI := h.inn _ hip
      refine ⟨?_, hI.rising.aput, ?_, ?_⟩
      · have ho2 : w2.ownsMap Try.prog 9 heldO i.b n (toV (amap Rk.v (aput ky ⟨v', l'⟩ i.es))) := by rw [amap_aput]; exact ho
        exact ownsM_tightV ho2
      · intro q hq
        rcases mem_aput.1 hq with rfl | ⟨hq, hqn⟩
        · refine row_touchM h1 t2 fun k hk e => ?_
          subst e
          rcases hv' with e2 | ⟨k2, e2, h2⟩
          · rw [e2] at hk; exact (hrb _ hk).2.2.2.2.1 _ hip rfl
          · have : k2 = i.b := by rw [hk] at e2; exact (Option.some.inj e2).symm
            have hlt : i.b < w.heap.size := hI.owns.lt
            omega
        · exact row_touchM (hI.rows q hq) t (fun k hk => hoth _ hip q hq (.inr hqn) k hk)
      · intro q hq
        rcases mem_aput.1 hq with rfl | ⟨hq, hqn⟩
        · exact hl'
        · exact hI.lens q hq
    · refine (h.inn p hp).touch t ?_ fun q hq k hk => hoth p hp q hq (.inl hne) k hk
      rintro (e | e)
      · exact h.ne_bb hp hip hne e
      · exact (hrb _ e).2.2.2.2.1 p hp rfl
  · show aput kp (aput ky l' (innL i)) s.keys = amap innL _
    rw [amap_aput, ← h.eq]
    show _ = aput kp (amap Rk.l (aput ky ⟨v', l'⟩ i.es)) s.keys
    rw [amap_aput]
  · obtain ⟨ob, o1, o2, o3⟩ := h.own
    refine ⟨ob, o1, o2, fun p hp => ?_⟩
    rcases mem_aput.1 hp with rfl | ⟨hp, hne⟩
    · exact o3 (kp, i) hip
    · exact o3 p hp
  · refine ⟨fun k => if v'.ownBlock = some k then some (kp, ky) else rb k, fun p hp q hq k hk => ?_⟩
    have hold : ∀ p ∈ os, ∀ q ∈ p.2.es, (p.1 ≠ kp ∨ q.1 ≠ ky) → ∀ k, q.2.v.ownBlock = some k → v'.ownBlock ≠ some k := by
      intro p hp q hq hne k hk e
      rcases hv' with e2 | ⟨k2, e2, h2⟩
      · exact hoth p hp q hq hne k hk (.inr (by rw [← e2]; exact e))
      · obtain ⟨c, hc⟩ := row_ltM ((h.inn p hp).rows q hq) hk
        have := lt_of_heap hc
        rw [e] at e2
        have : k = k2 := Option.some.inj e2
        omega
    rcases mem_aput.1 hp with rfl | ⟨hp, hne⟩
    · rcases mem_aput.1 hq with rfl | ⟨hq, hqn⟩
      · exact if_pos hk
      · show (if v'.ownBlock = some k then _ else _) = _
        rw [if_neg (hold _ hip q hq (.inr hqn) k hk)]
        exact hrb2 _ hip q hq k hk
    · show (if v'.ownBlock = some k then _ else _) = _
      rw [if_neg (hold p hp q hq (.inl hne) k hk)]
      exact hrb2 p hp q hq k hk
/-- A map more. -/
theorem MapsC.newMap (h : MapsC w g mt mk hv os s) {w1 w2 : World} {ko : Key} {b n : Nat} (t1 : Touch (fun _ => False) w w1) (hb : w.heap.size ≤ b) (hr : RanksAt w1 b 0 [])
    (ho : ToldAt w2 mk n (aput ko (.map (some b)) (amap innV os))) (ht : w1.mapTurned w2 mk) :
    MapsC w2 g mt mk hv (aput ko ⟨b, []⟩ os) { s with keys := aput ko [] s.keys } ∧ Touch (fun k => k = mk) w w2 := by
  have t2 := turned_touch ht
  have t : Touch (fun k => k = mk) w w2 := (t1.mono fun _ _ q => q.elim).trans t2
  have hbl := hr.lt
  refine ⟨⟨?_, owns_touchM h.told t h.tk, ?_, h.rtold, h.rkeys.aput, row_touchM h.hidR t (fun k hk e => (h.hid_ne hk).2.2.1 e), h.hidF, h.hidL, fun p hp => ?_, ?_, h.tk, ?_, ?_⟩, t⟩
  · rw [t.block g (lt_of_heap h.cells) (fun e => h.ne_kg e.symm)]; exact h.cells
  · have ho2 : w2.ownsMap Try.prog 34 heldO mk n (toV (amap innV (aput ko ⟨b, []⟩ os))) := by rw [amap_aput]; exact ho
    exact ownsM_tightV ho2
  · rcases mem_aput.1 hp with rfl | ⟨hp, hne⟩
    · refine ⟨owns_touchM hr t2 ?_, List.Pairwise.nil, (fun q hq => by cases hq), (fun q hq => by cases hq)⟩
      intro e
      have := h.keys.lt
      simp only at e
      omega
    · exact (h.inn p hp).touch t (h.ne_bk hp) fun q hq k hk e => (h.rows_ne hp hq hk).2.2.1 e
  · show aput ko [] s.keys = amap innL _
    rw [amap_aput, ← h.eq]; rfl
  · obtain ⟨ob, o1, o2, o3⟩ := h.own
    refine ⟨fun k => if k = b then some ko else ob k, ?_, ?_, fun p hp => ?_⟩
    · have := h.told.lt
      show (if mt = b then _ else _) = _
      rw [if_neg (by omega)]; exact o1
    · have := h.keys.lt
      show (if mk = b then _ else _) = _
      rw [if_neg (by omega)]; exact o2
    · rcases mem_aput.1 hp with rfl | ⟨hp, hne⟩
      · exact if_pos rfl
      · have := (h.inn p hp).owns.lt
        show (if p.2.b = b then _ else _) = _
        rw [if_neg (by omega)]; exact o3 p hp
  · obtain ⟨rb, hrb⟩ := h.rown
    refine ⟨rb, fun p hp q hq k hk => ?_⟩
    rcases mem_aput.1 hp with rfl | ⟨hp, hne⟩
    · cases hq
    · exact hrb p hp q hq k hk
end
end Go.Proofs.Ytegldlfbmaapiaa

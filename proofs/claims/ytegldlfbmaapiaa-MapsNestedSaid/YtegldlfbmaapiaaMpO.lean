/- Package maps: New, Hide, Set, Is, Get on a Maps in memory. -/
import Derived.Test.YtegldlfbmaapiaaMpN
import Derived.Test.YtegldlfbmaapiaaIdClean
namespace Go.Proofs.Ytegldlfbmaapiaa
open Go.RowKit Go.Maps
set_option linter.unusedVariables false
set_option linter.unusedSimpArgs false
set_option maxRecDepth 100000

theorem hasB_clean {l out : List Rg} (hF : Form (tns out) (turnOf (tns l))) (c k : Int) : hasB out c k = hasB l c k := by
  rw [hasB_turn, hasB_turn, hF.1.turnOf, hF.2]
section
variable {w : World} {g mt mk : Nat} {hv : Value} {os : List (Key × Inn)} {s : MS}
theorem MapsC.notRg (h : MapsC w g mt mk hv os s) {k : Nat} (hk : footM g mt mk hv os k) (hn : hv.ownBlock ≠ some k) : ¬ RgB w k := by
  rintro ⟨c, hc⟩
  rcases hk with rfl | rfl | rfl | e | ⟨p, hp, rfl | ⟨q, hq, e⟩⟩
  · rw [h.cells] at hc; simp at hc
  · exact notMapCells h.told hc
  · exact notMapCells h.keys hc
  · exact hn e
  · exact notMapCells (h.inn p hp).owns hc
  · obtain ⟨c2, hc2⟩ := row_ltM ((h.inn p hp).rows q hq) e
    rw [hc] at hc2
    simp at hc2
theorem MPost.same {F : Nat → Prop} {w' : World} (h : MapsAt w g F s) (t : Touch (fun _ => False) w w') : MPost g F s w w' :=
  ⟨F, h.touch t fun _ _ => id, t.mono fun _ _ h => h.elim, fun _ _ h => h⟩
theorem set_any {F : Nat → Prop} (h : MapsAt w g F s) (hsm : SmallS s) (o : O) (hf : o.fits) (hky : o.ky.size ≤ 281474976710656) :
    Calls Try.prog 10 #[.pointer (some ⟨g, 0, none⟩), o.val] w fun e w' => e = .returned (.bool (okS s o)) ∧ MPost g F (setS s o) w w' := by
  have h0 := h
  obtain ⟨mt, mk, hv, os, hC, hF, hl⟩ := h
  cases hok : okS s o with
  | false =>
    refine (set_no hC o hf hok).mono ?_
    rintro e w' ⟨rfl, t⟩
    refine ⟨rfl, ?_⟩
    have : setS s o = s := by unfold setS; rw [hok]; rfl
    rw [this]
    exact MPost.same h0 t
  | true =>
    refine (set_yes hC hsm o hf hky hok).mono ?_
    rintro e w' ⟨rfl, os', S, hC', t, hS, hf'⟩
    exact ⟨rfl, mpost_of hl hC' t (fun k hk => ⟨hF k (hS k hk).1, hC.notRg (hS k hk).1 (hS k hk).2⟩) fun k hk hk2 => hF k (hf' k hk hk2)⟩
theorem is_any {F : Nat → Prop} (h : MapsAt w g F s) {c k : Int} (hc : U64 c) (hk : U64 k) :
    Calls Try.prog 11 #[.pointer (some ⟨g, 0, none⟩), idV c k] w fun e w' => e = .returned (.bool (isS s c k)) ∧ Touch (fun _ => False) w w' := by
  obtain ⟨mt, mk, hv, os, hC, hF, hl⟩ := h
  exact isC_any hC hc hk
theorem get_any {F : Nat → Prop} (h : MapsAt w g F s) {c k : Int} (hc : U64 c) (hk : U64 k) (ky : ByteArray) (hky : ky.size ≤ maxLen) :
    Calls Try.prog 18 #[.pointer (some ⟨g, 0, none⟩), idV c k, .string ky] w fun e w' => e = .returned (.tuple #[(getS s c k ky).1.val, .bool (getS s c k ky).2]) ∧ Touch (fun _ => False) w w' := by
  obtain ⟨mt, mk, hv, os, hC, hF, hl⟩ := h
  exact getC_any hC hc hk ky hky
/-- Hidden ranges laid in the old ones' place. -/
theorem MapsC.hidePut (h : MapsC w g mt mk hv os s) {w1 : World} {v' : Value} {out : List Rg} (hn : NewR w w1 v' out) (hr : Rise out) (hl : out.length ≤ 1073741824) :
    MapsC (w1.setCell ⟨g, 2, none⟩ v') g mt mk v' os { s with hid := out } := by
  have h1 := h.quiet hn.touch
  have t : Touch (fun k => k = g) w1 (w1.setCell ⟨g, 2, none⟩ v') := (Touch.refl (fun k => k = g) w1).setCell _ _ fun _ => rfl
  refine ⟨?_, owns_touchM h1.told t (fun e => h1.ne_tg e), owns_touchM h1.keys t (fun e => h1.ne_kg e), h1.rtold, h1.rkeys, row_touchM (ty := 54) ?_ t ?_, hr, hl, fun p hp => ?_, h1.eq, h1.tk, h1.own, h1.rown⟩
  · rw [heap_setCell_same _ _ _ _ h1.cells]; rfl
  · refine ⟨hn.owns.1, ?_⟩
    rcases hn.owns.2 with e | ⟨g2, cap, cur, e, hb, r⟩
    · exact .inl e
    · exact .inr ⟨g2, cap, cur, e, Nat.zero_le _, r⟩
  · intro k hk e
    have a := hn.fresh k hk
    have b := lt_of_heap h.cells
    omega
  · exact (h1.inn p hp).touch t (fun e => h1.ne_bg hp e) fun q hq k hk e => (h1.rows_ne hp hq hk).1 e
set_option maxHeartbeats 4000000 in
theorem hide_any {F : Nat → Prop} (h : MapsAt w g F s) (l : List Rg) (v : Value) (hs : SlR w v l) (hll : l.length ≤ 1073741824) :
    Calls Try.prog 9 #[.pointer (some ⟨g, 0, none⟩), v] w fun e w' => e = .returned (.tuple #[]) ∧ ∃ out, Form (tns out) (turnOf (tns l)) ∧ MPost g F { s with hid := out } w w' := by
  obtain ⟨mt, mk, hv, os, hC, hF, hl⟩ := h
  have HCl : Hid (Calls Try.prog 20 #[v] w fun e w' => ∃ v' out, e = .returned v' ∧ NewR w w' v' out ∧ Form (tns out) (turnOf (tns l)) ∧ out.length ≤ l.length) := cleanI_any l v w hs hll
  have H0 : Hid (MapsC w g mt mk hv os s ∧ (∀ k, footM g mt mk hv os k → F k) ∧ ∀ k, F k → k < w.heap.size) := ⟨hC, hF, hl⟩
  have HL : Hid (l.length ≤ 1073741824) := hll
  have hv1 : v.oneCell' = true := by obtain ⟨ao, cap, rfl, _⟩ := hs; rfl
  clear hC hF hl hs hll
  go_enter Try.func9, Try.ntmps9
  go_wp2_with fail
  refine HCl.out.mono ?_
  rintro e w1 ⟨v', out, rfl, hn, hfm, hol⟩
  have hv2 : v'.oneCell' = true := by obtain ⟨ao, cap, rfl, _⟩ := hn.sl; rfl
  have c2 : w1.cell? ⟨g, 2, none⟩ = some hv := (H0.out.1.quiet hn.touch).c2
  have fr : w1.frozen? ⟨g, 2, none⟩ = false := free_of_block (H0.out.1.quiet hn.touch).cells
  obtain ⟨ao', cap', hv3, -⟩ := hn.sl.shape
  have HQ : Hid (Form (tns out) (turnOf (tns l)) ∧ MPost g F { s with hid := out } w (w1.setCell ⟨g, 2, none⟩ v')) := by
    refine ⟨hfm, ?_⟩
    have hC' := H0.out.1.hidePut hn (Rise.of_canon out hfm.1) (by have := HL.out; omega)
    refine mpost_of (S := fun k => k = g) H0.out.2.2 hC' ((hn.touch.mono fun _ _ q => q.elim).trans ((Touch.refl (fun k => k = g) w1).setCell _ _ fun _ => rfl)) ?_ ?_
    · rintro k rfl
      refine ⟨H0.out.2.1 _ (.inl rfl), ?_⟩
      refine H0.out.1.notRg (.inl rfl) fun e => (H0.out.1.hid_ne e).1 rfl
    · intro k hk hfo
      rcases hfo with e | e | e | e | e
      · exact H0.out.2.1 k (.inl e)
      · exact H0.out.2.1 k (.inr (.inl e))
      · exact H0.out.2.1 k (.inr (.inr (.inl e)))
      · exact absurd (hn.fresh k e) (by omega)
      · exact H0.out.2.1 k (.inr (.inr (.inr (.inr e))))
  subst hv3
  clear hn hfm hol hv2 HCl
  go_wp2_with fail
  go_end0
  exact ⟨rfl, out, HQ.out⟩
end
/-- No sets, the root map. -/
def newS : MS := ⟨[], [(kI 0 0, [])], []⟩
set_option maxHeartbeats 4000000 in
theorem newMaps_any (w : World) : Calls Try.prog 8 #[] w fun e w' => ∃ g F, e = .returned (.pointer (some ⟨g, 0, none⟩)) ∧ MapsAt w' g F newS ∧ Touch (fun _ => False) w w' ∧ ∀ k, F k → w.heap.size ≤ k := by
  have hmm := @run_makeMap Try.prog
  obtain ⟨W3, hW3⟩ : ∃ W, W = ((w.alloc (.map #[] 0)).alloc (.map #[] 0)).alloc (.map #[] 0) := ⟨_, rfl⟩
  have s1 : ((w.alloc (.map #[] 0))).heap.size = w.heap.size + 1 := by simp
  have s2 : ((w.alloc (.map #[] 0)).alloc (.map #[] 0)).heap.size = w.heap.size + 1 + 1 := by simp
  have t3 : Touch (fun _ => False) w W3 := by rw [hW3]; exact (((Touch.refl _ _).alloc _).alloc _).alloc _
  have o1 : ToldAt W3 w.heap.size 0 [] := by rw [hW3]; exact ((World.ownsMap_made w _ _ _).alloc _).alloc _
  have o2 : ToldAt W3 (w.heap.size + 1) 0 [] := by
    have := (World.ownsMap_made (w.alloc (.map #[] 0)) Try.prog 34 heldO).alloc (.map #[] 0)
    rw [s1] at this
    rw [hW3]; exact this
  have o3 : RanksAt W3 (w.heap.size + 1 + 1) 0 [] := by
    have := World.ownsMap_made ((w.alloc (.map #[] 0)).alloc (.map #[] 0)) Try.prog 9 heldO
    rw [s2] at this
    rw [hW3]; exact this
  obtain ⟨W4, hrun, o4, t4⟩ := keys_put o2 (by unfold maxLen; omega) (c := 0) (k := 0) ⟨by decide, by decide⟩ ⟨by decide, by decide⟩ (.map (some (w.heap.size + 1 + 1)))
  have q4 := turned_touch t4
  obtain ⟨W5, hW5⟩ : ∃ W, W = W4.alloc (.cells #[.map (some w.heap.size), .map (some (w.heap.size + 1)), .slice none 0 0] 69) := ⟨_, rfl⟩
  have t45 : Touch (fun _ => False) W4 W5 := by rw [hW5]; exact (Touch.refl _ _).alloc _
  have hsz4 : w.heap.size + 1 + 1 < W4.heap.size := by have := q4.size; have := o3.lt; omega
  have HQ : Hid (MapsAt W5 W4.heap.size (fun k => w.heap.size ≤ k ∧ k < W5.heap.size) newS ∧ Touch (fun _ => False) w W5) := by
    have hC : MapsC W5 W4.heap.size w.heap.size (w.heap.size + 1) (.slice none 0 0) [(kI 0 0, ⟨w.heap.size + 1 + 1, []⟩)] newS := by
      refine ⟨?_, ?_, ?_, List.Pairwise.nil, List.pairwise_singleton _ _, World.ownsRow_nil _ _ _ _, ⟨List.Pairwise.nil, (fun r hr => by cases hr)⟩, Nat.zero_le _, ?_, rfl, by omega, ?_, ⟨fun _ => none, ?_⟩⟩
      · rw [hW5]; exact heap_alloc_new _ _
      · exact owns_touchM (owns_touchM o1 q4 (by omega)) t45 id
      · have := owns_touchM o4 t45 id
        exact this
      · intro p hp
        rw [List.mem_singleton] at hp
        subst hp
        exact ⟨owns_touchM (owns_touchM o3 q4 (by simp)) t45 id, List.Pairwise.nil, (fun q hq => by cases hq), (fun q hq => by cases hq)⟩
      · refine ⟨fun k => if k = w.heap.size + 1 + 1 then some (kI 0 0) else none, ?_, ?_, ?_⟩
        · show (if _ then _ else _) = _
          rw [if_neg (by omega)]
        · show (if _ then _ else _) = _
          rw [if_neg (by omega)]
        · intro p hp
          rw [List.mem_singleton] at hp
          subst hp
          exact if_pos rfl
      · intro p hp q hq
        rw [List.mem_singleton] at hp
        subst hp
        cases hq
    refine ⟨⟨_, _, _, _, hC, fun k hk => ⟨?_, hC.foot_lt hk⟩, fun k hk => hk.2⟩, ?_⟩
    · rcases hk with e | e | e | e | ⟨p, hp, e⟩
      · omega
      · omega
      · omega
      · simp [Value.ownBlock] at e
      · rw [List.mem_singleton] at hp
        subst hp
        rcases e with e | ⟨q, hq, _⟩
        · simp only at e; omega
        · cases hq
    · exact (t3.then q4 fun k hk e => by omega).trans t45
  have HW5 : Hid (W5 = W4.alloc (.cells #[.map (some w.heap.size), .map (some (w.heap.size + 1)), .slice none 0 0] 69)) := hW5
  rw [hW3] at hrun
  clear hW3 hW5 s1 s2 t3 o1 o2 o3 o4 t4 q4 t45 hsz4
  go_enter Try.func8, Try.ntmps8
  go_wp2_with fail
  rw [← HW5.out]
  go_ret
  exact ⟨W4.heap.size, _, rfl, HQ.out.1, HQ.out.2, fun k hk => hk.1⟩
end Go.Proofs.Ytegldlfbmaapiaa

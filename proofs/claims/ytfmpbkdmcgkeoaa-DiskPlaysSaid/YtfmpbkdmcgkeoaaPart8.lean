/- The contracts of disk's find, lay, drop, first. -/
import Derived.Test.YtfmpbkdmcgkeoaaDSmall
import Derived.BigRegion
namespace Go.Proofs.Ytfmpbkdmcgkeoaa
open Go.RowKit Go.Maps
set_option linter.unusedVariables false

section
variable {w : World} {d m n : Nat} {es : List (Key × Fl)} {room power : Int}

theorem keyStr (s : ByteArray) (hs : s.size ≤ maxLen) : keyOf Try.prog 9 (.string s) = some (.string s.data.toList) := WideMaps.keyOf_string_mk Try.underlying9 hs

theorem Core.look (h : Core w d m n es room power) (s : ByteArray) (hs : s.size ≤ maxLen) :
    (Instr.lookup 58 (.map (some m)) (.string s) false).run Try.prog w = .ok (getF s.data.toList es).val w := by
  obtain ⟨v, ps, hrun, hv⟩ := h.owns.lookup lawK Try.underlying58 (zeroFile w) (R := heldR) rfl (keyStr s hs)
  rw [toD_at] at hv
  simp only [heldR, Option.some.injEq, Prod.mk.injEq, DataW.held.injEq] at hv
  rw [hrun, hv.1]
theorem Core.look2 (h : Core w d m n es room power) (s : ByteArray) (hs : s.size ≤ maxLen) :
    (Instr.lookup 58 (.map (some m)) (.string s) true).run Try.prog w = .ok (.tuple #[(getF s.data.toList es).val, .bool (aget s.data.toList es).isSome]) w := by
  obtain ⟨v, ps, hrun, hv⟩ := h.owns.look_ok lawK Try.underlying58 (zeroFile w) (R := heldR) rfl (keyStr s hs)
  rw [toD_at] at hv
  rw [toD_has] at hrun
  simp only [heldR, Option.some.injEq, Prod.mk.injEq, DataW.held.injEq] at hv
  rw [hrun, hv.1]

/-- What find answers. -/
def foundF (power : Int) (k : Key) (es : List (Key × Fl)) : Fl := if power = 0 then zeroF else getF k es
def foundE (power : Int) (k : Key) (es : List (Key × Fl)) : Int := if power = 0 then 43 else if (aget k es).isSome then 0 else 40

set_option maxRecDepth 100000 in
set_option maxHeartbeats 400000 in
theorem find_any (h : Core w d m n es room power) (s : ByteArray) (hs : s.size ≤ maxLen) :
    Calls Try.prog 44 #[.pointer (some ⟨d, 0, none⟩), .string s] w fun e w' => e = .returned (.tuple #[(foundF power s.data.toList es).val, .int .i64 (foundE power s.data.toList es)]) ∧ Touch (fun _ => False) w w' := by
  have HD : Hid (Calls Try.prog 34 #[.pointer (some ⟨d, 0, none⟩)] (w.alloc (.cells #[.slice none 0 0, .int .i64 0] 66)) fun e w' => e = .returned (.bool (decide (power = 0))) ∧ w' = (w.alloc (.cells #[.slice none 0 0, .int .i64 0] 66))) := dead_any (h.alloc _)
  unfold foundF foundE
  by_cases e : power = 0
  · simp only [if_pos e, zeroF, Fl.val]
    rw [decide_eq_true e] at HD
    clear h e
    go_enter Try.func44, Try.ntmps44
    go_wp2_with fail
    refine HD.out.mono ?_
    rintro e1 w1 ⟨rfl, hw⟩
    rw [hw]; clear hw
    go_wp2_with fail
    exact bodyPost_ret (v := .tuple #[.agg #[.slice none 0 0, .int .i64 0], .int .i64 43]) (by simp [results, Try.results44, go_sem]) rfl ⟨rfl, ((Touch.refl _ w).alloc _)⟩
  · simp only [if_neg e]
    rw [decide_eq_false e] at HD
    have L := (h.alloc (.cells #[.slice none 0 0, .int .i64 0] 66)).look2 s hs
    have C0 := (h.alloc (.cells #[.slice none 0 0, .int .i64 0] 66)).c0
    cases hb : aget s.data.toList es with
    | some f =>
      have hg : getF s.data.toList es = f := by simp [getF, hb]
      obtain ⟨⟨ao, cap, hv⟩, _⟩ := h.get s.data.toList
      rw [hg] at L hv ⊢
      rw [hb] at L
      obtain ⟨v, bs, syn⟩ := f
      simp only at hv
      subst hv
      simp only [Fl.val, Option.isSome_some, if_true] at L ⊢
      clear h e hb hg
      go_enter Try.func44, Try.ntmps44
      go_wp2_with fail
      refine HD.out.mono ?_
      rintro e1 w1 ⟨rfl, hw⟩
      rw [hw]; clear hw
      go_wp2_with fail
      exact bodyPost_ret (v := .tuple #[.agg #[.slice ao bs.length cap, .int .i64 (syn : Int)], .int .i64 0]) (by simp [results, Try.results44, go_sem]) rfl ⟨rfl, ((Touch.refl _ w).alloc _).alloc _⟩
    | none =>
      have hg : getF s.data.toList es = zeroF := by simp [getF, hb]
      rw [hg] at L ⊢
      rw [hb] at L
      simp only [Fl.val, zeroF, Option.isSome_none, Int.natCast_zero] at L ⊢
      clear h e hb hg
      go_enter Try.func44, Try.ntmps44
      go_wp2_with fail
      refine HD.out.mono ?_
      rintro e1 w1 ⟨rfl, hw⟩
      rw [hw]; clear hw
      go_wp2_with fail
      exact bodyPost_ret (v := .tuple #[.agg #[.slice none 0 0, .int .i64 0], .int .i64 40]) (by simp [results, Try.results44, go_sem]) rfl ⟨rfl, ((Touch.refl _ w).alloc _).alloc _⟩
end
end Go.Proofs.Ytfmpbkdmcgkeoaa

/- The contracts of disk's lay and drop. -/
namespace Go.Proofs.Ytfmpbkdmcgkeoaa
open Go.RowKit Go.Maps
set_option linter.unusedVariables false

section
variable {w : World} {d m n : Nat} {es : List (Key × Fl)} {room power : Int}

/-- The two stores of a file that is taken away. -/
theorem Core.dropped (h : Core w d m n es room power) (k : Key) {w1 : World} (ho : w1.ownsMap Try.prog 9 heldR m n ((toD es).del (.string k))) (ht : (w.setCell ⟨d, 1, none⟩ (.int .i64 (used (adel k es) : Int))).mapTurned w1 m) : Core w1 d m n (adel k es) room power ∧ Touch (fun i => i = d ∨ i = m) w w1 := by
  have hg := ht.grown
  have hd1 : (w.setCell ⟨d, 1, none⟩ (.int .i64 (used (adel k es) : Int))).heap[d]? = some (.cells #[.map (some m), .int .i64 (used (adel k es) : Int), .int .i64 room, .int .i64 power] 60 (0, 0)) := by
    rw [heap_setCell_same _ _ _ _ h.cells]; rfl
  refine ⟨⟨?_, ?_, h.rising.adel, fun p hp => h.good p (mem_adel.1 hp).1, h.room0, h.room1, h.pow0, h.pow1, fun p hp => h.keys p (mem_adel.1 hp).1⟩, ?_⟩
  · rw [hg.block d (by rw [size_setCell]; exact h.lt) (by simpa using h.ne.symm)]; exact hd1
  · rw [← toD_del]; exact ho
  · exact ((Touch.refl _ w).setCell _ _ fun _ => .inl rfl).grown hg fun i e _ => .inr (by simpa using e.symm)

theorem used_del (h : Core w d m n es room power) (k : Key) : (used es : Int) - ((getF k es).bs.length : Int) = (used (adel k es) : Int) := by
  have := asum_adel (k := k) (fun f : Fl => f.bs.length) h.rising
  unfold used getF
  cases e : aget k es with
  | none => rw [e] at this; simp only [Option.getD_none, zeroF, List.length_nil] at this ⊢; omega
  | some f => rw [e] at this; simp only [Option.getD_some] at this ⊢; omega

theorem field0_run (v : Value) (hv : ∃ ao n cap, v = .slice ao n cap) (i : Int) (w : World) : (Instr.field 66 (.agg #[v, .int .i64 i]) 0).run Try.prog w = .ok v w := by
  obtain ⟨ao, n, cap, rfl⟩ := hv
  kernel_rfl
theorem Core.drew (h : Core w d m n es room power) : Core w.drew d m n es room power := ⟨h.cells, h.owns.drew, h.rising, h.good, h.room0, h.room1, h.pow0, h.pow1, h.keys⟩

set_option maxRecDepth 100000 in
set_option maxHeartbeats 800000 in
theorem drop_any (h : Core w d m n es room power) (s : ByteArray) (hs : s.size ≤ maxLen) (hn : n ≤ 1073741824) :
    Calls Try.prog 45 #[.pointer (some ⟨d, 0, none⟩), .string s] w fun e w' => e = .returned (.tuple #[]) ∧ Core w' d m n (adel s.data.toList es) room power ∧ Touch (fun i => i = d ∨ i = m) w w' := by
  have L := h.drew.look s hs
  have c0 := h.c0
  have c1 := h.c1
  have f1 := h.free 1
  have hu := h.used_le
  have HP : Hid (∀ w1 : World, w1.ownsMap Try.prog 9 heldR m n ((toD es).del (.string s.data.toList)) → (w.drew.setCell ⟨d, 1, none⟩ (.int .i64 ((used es : Int) - ((getF s.data.toList es).bs.length : Int)))).mapTurned w1 m → Core w1 d m n (adel s.data.toList es) room power ∧ Touch (fun i => i = d ∨ i = m) w w1) := by
    rw [used_del h]; exact fun w1 h1 h2 => (h.drew.dropped _ h1 h2).imp id fun t => ((Touch.refl _ w).drew).trans t
  have ho : Hid (∀ x : Value, (w.drew.setCell ⟨d, 1, none⟩ x).ownsMap Try.prog 9 heldR m n (toD es)) := fun x => h.drew.owns.setCell h.ne _
  have c0' : ∀ x : Value, (w.drew.setCell ⟨d, 1, none⟩ x).cell? ⟨d, 0, none⟩ = some (.map (some m)) := by
    intro x
    rw [cell_of_block (heap_setCell_same _ _ _ _ h.drew.cells)]; rfl
  obtain ⟨⟨ao, cap, hv⟩, _, hb⟩ := h.get s.data.toList
  have hk := keyStr s hs
  clear h
  generalize getF s.data.toList es = f at *
  obtain ⟨v, bs, syn⟩ := f
  simp only at hv hb HP
  subst hv
  simp only [Fl.val] at L
  have hfr := fun W => field0_run (.slice ao bs.length cap) ⟨_, _, _, rfl⟩ (syn : Int) W
  go_enter Try.func45, Try.ntmps45
  go_wp2_with fail
  go_region
  · go_wp2_with (first | (at_delete; refine wpList_delete_own _ rfl _ _ 58 9 rfl 66 lawK Try.underlying58 _ m n (toD es) rfl (ho.out _) _ _ rfl hk ?_; intro w1 hown1 hturn1))
    go_end0
    exact ⟨rfl, HP.out w1 hown1 hturn1⟩
end
end Go.Proofs.Ytfmpbkdmcgkeoaa

/- The contracts of disk's lay and drop. -/
import Derived.Test.YtfeojfcnphjbdaaFindD
import Derived.BigRegion
namespace Go.Proofs.Ytfeojfcnphjbdaa
open Go.RowKit Go.Maps
set_option linter.unusedVariables false

section
variable {w : World} {d m n : Nat} {es : List (Key × Fl)} {room power : Int}

/-- The two stores of a file that is taken away. -/
theorem Core.dropped (h : Core w d m n es room power) (k : Key) {w1 : World} (ho : w1.ownsMap Try.prog 9 heldR m n ((toD es).del (.string k))) (ht : (w.setCell ⟨d, 1, none⟩ (.int .i64 (used (adel k es) : Int))).mapTurned w1 m) : Core w1 d m n (adel k es) room power ∧ Touch (fun i => i = d ∨ i = m) w w1 := by
  have hg := ht.grown
  have hd1 : (w.setCell ⟨d, 1, none⟩ (.int .i64 (used (adel k es) : Int))).heap[d]? = some (.cells #[.map (some m), .int .i64 (used (adel k es) : Int), .int .i64 room, .int .i64 power] 67 (0, 0)) := by
    rw [heap_setCell_same _ _ _ _ h.cells]; rfl
  refine ⟨⟨?_, ?_, h.rising.adel, fun p hp => h.good p (mem_adel.1 hp).1, h.room0, h.room1, h.pow0, h.pow1, fun p hp => h.keys p (mem_adel.1 hp).1⟩, ?_⟩
  · rw [hg.block d (by rw [size_setCell]; exact h.lt) (by simpa using h.ne.symm)]; exact hd1
  · rw [← toD_del]; exact ho
  · exact ((Touch.refl _ w).setCell _ _ fun _ => .inl rfl).grown hg fun i e _ => .inr (by simpa using e.symm)

theorem used_del (h : Core w d m n es room power) (k : Key) : (used es : Int) - ((getF k es).bs.length : Int) = (used (adel k es) : Int) := by
  have := asum_adel (k := k) (fun f : Fl => f.bs.length) h.rising
  unfold used getF
  cases e : aget k es with
  | none => rw [e] at this; simp only [Option.getD_none, zeroF, List.length_nil] at this ⊢; omega
  | some f => rw [e] at this; simp only [Option.getD_some] at this ⊢; omega

theorem field0_run (v : Value) (hv : ∃ ao n cap, v = .slice ao n cap) (i : Int) (w : World) : (Instr.field 73 (.agg #[v, .int .i64 i]) 0).run Try.prog w = .ok v w := by
  obtain ⟨ao, n, cap, rfl⟩ := hv
  kernel_rfl
theorem Core.drew (h : Core w d m n es room power) : Core w.drew d m n es room power := ⟨h.cells, h.owns.drew, h.rising, h.good, h.room0, h.room1, h.pow0, h.pow1, h.keys⟩

set_option maxRecDepth 100000 in
set_option maxHeartbeats 800000 in
theorem drop_any (h : Core w d m n es room power) (s : ByteArray) (hs : s.size ≤ maxLen) (hn : n ≤ 1073741824) :
    Calls Try.prog 52 #[.pointer (some ⟨d, 0, none⟩), .string s] w fun e w' => e = .returned (.tuple #[]) ∧ Core w' d m n (adel s.data.toList es) room power ∧ Touch (fun i => i = d ∨ i = m) w w' := by
  have L := h.drew.look s hs
  have c0 := h.c0
  have c1 := h.c1
  have f1 := h.free 1
  have hu := h.used_le
  have HP : Hid (∀ w1 : World, w1.ownsMap Try.prog 9 heldR m n ((toD es).del (.string s.data.toList)) → (w.drew.setCell ⟨d, 1, none⟩ (.int .i64 ((used es : Int) - ((getF s.data.toList es).bs.length : Int)))).mapTurned w1 m → Core w1 d m n (adel s.data.toList es) room power ∧ Touch (fun i => i = d ∨ i = m) w w1) := by
    rw [used_del h]; exact fun w1 h1 h2 => (h.drew.dropped _ h1 h2).imp id fun t => ((Touch.refl _ w).drew).trans t
  have ho : Hid (∀ x : Value, (w.drew.setCell ⟨d, 1, none⟩ x).ownsMap Try.prog 9 heldR m n (toD es)) := fun x => h.drew.owns.setCell h.ne _
  have c0' : ∀ x : Value, (w.drew.setCell ⟨d, 1, none⟩ x).cell? ⟨d, 0, none⟩ = some (.map (some m)) := by
    intro x
    rw [cell_of_block (heap_setCell_same _ _ _ _ h.drew.cells)]; rfl
  obtain ⟨⟨ao, cap, hv⟩, _, hb⟩ := h.get s.data.toList
  have hk := keyStr s hs
  clear h
  generalize getF s.data.toList es = f at *
  obtain ⟨v, bs, syn⟩ := f
  simp only at hv hb HP
  subst hv
  simp only [Fl.val] at L
  have hfr := fun W => field0_run (.slice ao bs.length cap) ⟨_, _, _, rfl⟩ (syn : Int) W
  go_enter Try.func52, Try.ntmps52
  go_wp2_with fail
  go_region
  · go_wp2_with (first | (at_delete; refine wpList_delete_own _ rfl _ _ 65 9 rfl 73 lawK Try.underlying65 _ m n (toD es) rfl (ho.out _) _ _ rfl hk ?_; intro w1 hown1 hturn1))
    go_end0
    exact ⟨rfl, HP.out w1 hown1 hturn1⟩
end
end Go.Proofs.Ytfeojfcnphjbdaa

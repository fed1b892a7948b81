/- The contract of disk's lay. -/
import Derived.Test.YtfmpbkdmcgkeoaaPart8
import Derived.Test.YtfmpbkdmcgkeoaaPart5
import Derived.BigRegion
import Derived.Deep.RegionHeld3
namespace Go.Proofs.Ytfmpbkdmcgkeoaa
open Go.RowKit Go.Maps
set_option linter.unusedVariables false

section
variable {w : World} {d m n : Nat} {es : List (Key × Fl)} {room power : Int}

theorem used_put (h : Core w d m n es room power) (k : Key) (f : Fl) : (used es : Int) + ((f.bs.length : Int) - ((getF k es).bs.length : Int)) = (used (aput k f es) : Int) := by
  have := asum_aput (k := k) (x := f) (fun f : Fl => f.bs.length) h.rising
  unfold used getF
  cases e : aget k es with
  | none => rw [e] at this; simp only [Option.getD_none, zeroF, List.length_nil] at this ⊢; omega
  | some g => rw [e] at this; simp only [Option.getD_some] at this ⊢; omega

/-- The two stores of a file that is laid: 'w1' behind the first one, w2 behind what was made between, w3 behind the second. -/
theorem Core.laid (h : Core w d m n es room power) (k : Key) (f : Fl) (hf : Good f) (hkl : k.length ≤ 281474976710656) {W1 w2 w3 : World} (h1 : W1.heap[d]? = some (.cells #[.map (some m), .int .i64 (used (aput k f es) : Int), .int .i64 room, .int .i64 power] 60 (0, 0)))
    (t1 : Touch (fun i => i = d) w W1) (t2 : Touch (fun _ => False) W1 w2) (ho : w3.ownsMap Try.prog 9 heldR m (n + 1) ((toD es).put (.string k) (.held f.val))) (ht : w2.mapTurned w3 m) : Core w3 d m (n + 1) (aput k f es) room power ∧ Touch (fun i => i = d ∨ i = m) w w3 := by
  have hg := ht.grown
  have hl : d < W1.heap.size := lt_of_heap h1
  refine ⟨⟨?_, ?_, h.rising.aput, ?_, h.room0, h.room1, h.pow0, h.pow1, ?_⟩, ?_⟩
  · rw [hg.block d (Nat.lt_of_lt_of_le hl t2.size) (by simpa using h.ne.symm), t2.block d hl id]; exact h1
  · rw [← toD_put]; exact ho
  · intro p hp
    rcases mem_aput.1 hp with rfl | ⟨hp, _⟩
    · exact hf
    · exact h.good p hp
  · intro p hp
    rcases mem_aput.1 hp with rfl | ⟨hp, _⟩
    · exact hkl
    · exact h.keys p hp
  · exact ((t1.mono fun _ _ e => .inl e).then t2 (fun _ _ e => e.elim)).grown hg fun i e _ => .inr (by simpa using e.symm)

set_option maxRecDepth 100000 in
set_option maxHeartbeats 800000 in
theorem lay_any (h : Core w d m n es room power) (s : ByteArray) (hs : s.size ≤ 281474976710656) (hn : n ≤ 1073741824) (f : Fl) (hf : Good f) :
    Calls Try.prog 36 #[.pointer (some ⟨d, 0, none⟩), .string s, f.val] w fun e w' => e = .returned (.tuple #[]) ∧ Core w' d m (n + 1) (aput s.data.toList f es) room power ∧ Touch (fun i => i = d ∨ i = m) w w' := by
  have hA : Core (w.alloc (.cells #[f.v, .int .i64 (f.syn : Int)] 66)).drew d m n es room power := (h.alloc _).drew
  have hs2 : s.size ≤ maxLen := by unfold maxLen; omega
  have L := hA.look s hs2
  have c0 := hA.c0
  have c1 := hA.c1
  have f1 := hA.free 1
  have hu := h.used_le
  have hup := used_put h s.data.toList f
  obtain ⟨⟨ao, cap, hv⟩, _, hb⟩ := h.get s.data.toList
  obtain ⟨⟨ao2, cap2, hv2⟩, _, hb2⟩ := id hf
  obtain ⟨W1, hW1⟩ : ∃ W1, W1 = ((w.alloc (.cells #[f.v, .int .i64 (f.syn : Int)] 66)).setCell ⟨d, 1, none⟩ (.int .i64 (used (aput s.data.toList f es) : Int))).drew := ⟨_, rfl⟩
  have hd1 : W1.heap[d]? = some (.cells #[.map (some m), .int .i64 (used (aput s.data.toList f es) : Int), .int .i64 room, .int .i64 power] 60 (0, 0)) := by
    rw [hW1]
    show ((w.alloc (.cells #[f.v, .int .i64 (f.syn : Int)] 66)).setCell ⟨d, 1, none⟩ (.int .i64 (used (aput s.data.toList f es) : Int))).heap[d]? = _
    rw [heap_setCell_same _ _ _ _ (h.alloc _).cells]; rfl
  have t1 : Touch (fun i => i = d) w W1 := by
    rw [hW1]; exact (((Touch.refl (fun i => i = d) w).alloc _).setCell _ _ fun _ => rfl).drew
  have ho1 : W1.ownsMap Try.prog 9 heldR m n (toD es) := owns_touch h.owns t1 h.ne
  have hB1 : W1.heap[w.heap.size]? = some (.cells #[f.v, .int .i64 (f.syn : Int)] 66 (0, 0)) := by
    rw [hW1]
    show ((w.alloc (.cells #[f.v, .int .i64 (f.syn : Int)] 66)).setCell ⟨d, 1, none⟩ (.int .i64 (used (aput s.data.toList f es) : Int))).heap[w.heap.size]? = _
    rw [heap_setCell_other _ _ _ _ (Nat.ne_of_lt h.lt)]; exact heap_alloc_new _ _
  have HX : Hid (∀ w2 : World, Touch (fun _ => False) W1.drew w2 → ∃ w3, (w2.cell? ⟨d, 0, none⟩ = some (.map (some m)) ∧ w2.cell? ⟨w.heap.size, 0, none⟩ = some f.v ∧ w2.cell? ⟨w.heap.size, 1, none⟩ = some (.int .i64 (f.syn : Int))) ∧ (Instr.mapUpdate 58 (.map (some m)) (.string s) f.val).run Try.prog w2 = .ok () w3 ∧
      (w3.cell? ⟨d, 0, none⟩ = some (.map (some m)) ∧ w3.cell? ⟨w.heap.size, 0, none⟩ = some f.v ∧ w3.cell? ⟨w.heap.size, 1, none⟩ = some (.int .i64 (f.syn : Int))) ∧ Hid (Core w3 d m (n + 1) (aput s.data.toList f es) room power ∧ Touch (fun i => i = d ∨ i = m) w w3)) := by
    intro w2 t2
    have t2' : Touch (fun _ => False) W1 w2 := ((Touch.refl _ W1).drew).trans t2
    have ho2 := owns_touch ho1 t2' id
    obtain ⟨w3, hrun, ho3, ht3⟩ := ho2.store lawK Try.underlying58 (Nat.lt_of_le_of_lt hn (by unfold maxLen; omega)) (keyStr s hs2) (val := f.val) (d := .held f.val) (ps := []) rfl
    have hd2 := (t2'.block d (lt_of_heap hd1) id).trans hd1
    have hB2 := (t2'.block w.heap.size (lt_of_heap hB1) id).trans hB1
    have hg := ht3.grown
    have hd3 := (hg.block d (lt_of_heap hd2) (by simpa using h.ne.symm)).trans hd2
    have hB3 := (hg.block w.heap.size (lt_of_heap hB2) (by simpa using (Nat.ne_of_lt h.ltm).symm)).trans hB2
    exact ⟨w3, ⟨by rw [cell_of_block hd2]; rfl, by rw [cell_of_block hB2]; rfl, by rw [cell_of_block hB2]; rfl⟩, hrun, ⟨by rw [cell_of_block hd3]; rfl, by rw [cell_of_block hB3]; rfl, by rw [cell_of_block hB3]; rfl⟩, h.laid _ f hf (by rw [Array.length_toList]; exact hs) hd1 t1 t2' ho3 ht3⟩
  have HC : Hid (∀ W, Calls Try.prog 50 #[.string s] W fun e w' => e = .returned (.string s) ∧ Touch (fun _ => False) W w') := fun W => strClone_any s W hs
  have k0 : W1.cell? ⟨d, 0, none⟩ = some (.map (some m)) := by rw [cell_of_block hd1]; rfl
  have k1 : W1.cell? ⟨w.heap.size, 0, none⟩ = some f.v := by rw [cell_of_block hB1]; rfl
  have k2 : W1.cell? ⟨w.heap.size, 1, none⟩ = some (.int .i64 (f.syn : Int)) := by rw [cell_of_block hB1]; rfl
  have hWH : Hid (W1 = ((w.alloc (.cells #[f.v, .int .i64 (f.syn : Int)] 66)).setCell ⟨d, 1, none⟩ (.int .i64 (used (aput s.data.toList f es) : Int))).drew) := hW1
  clear h hA hf hW1 hd1 t1 ho1 hB1
  generalize getF s.data.toList es = f0 at *
  obtain ⟨v0, bs0, syn0⟩ := f0
  obtain ⟨v, bs, syn⟩ := f
  simp only at hv hb hv2 hb2 hup k1 k2 HX hWH
  subst hv hv2
  simp only [Fl.val] at L HX ⊢
  have hfr := fun W => field0_run (.slice ao bs0.length cap) ⟨_, _, _, rfl⟩ (syn0 : Int) W
  go_enter Try.func36, Try.ntmps36
  go_wp2_with fail
  go_region
  · rw [← hWH.out]
    clear L c0 c1 f1 hup hfr
    go_wp2_with fail
    go_region_held3 (fun W => W.cell? ⟨d, 0, none⟩ = some (.map (some m)) ∧ W.cell? ⟨w.heap.size, 0, none⟩ = some (.slice ao2 bs.length cap2) ∧ W.cell? ⟨w.heap.size, 1, none⟩ = some (.int .i64 (syn : Int))) (first | assumption | exact ⟨k0, k1, k2⟩)
      (first | (go_at_call 50; (with_reducible refine (HC.out _).mono ?_); rintro e w2 ⟨rfl, hT⟩; obtain ⟨w3, hS2, hrun, hS3, hF⟩ := HX.out w2 hT; clear hT))
    all_goals (try go_wp2_with fail)
    all_goals (go_end0; exact ⟨rfl, hF.out⟩)
end
end Go.Proofs.Ytfmpbkdmcgkeoaa

/- The contracts of disk's New, and of its small calls on a disk in its state. -/
import Derived.Test.YtfeojfcnphjbdaaPosts
import Derived.Test.YtfeojfcnphjbdaaNamesD
namespace Go.Proofs.Ytfeojfcnphjbdaa
open Go.RowKit Go.Maps Go.Sort
set_option linter.unusedVariables false

theorem DPost.trans {d : Nat} {F : Nat → Prop} {s1 s2 : St} {w w1 w2 : World} (h : DPost d F s1 w w1) (k : ∀ F1, Disk w1 d F1 s1 → DPost d F1 s2 w1 w2) : DPost d F s2 w w2 := by
  obtain ⟨F1, hD, t1, hf1⟩ := h
  obtain ⟨F2, hD2, t2, hf2⟩ := k F1 hD
  exact ⟨F2, hD2, t1.then t2 hf1, fun i hi h => hf1 i hi (hf2 i (Nat.lt_of_lt_of_le hi t1.size) h)⟩

section
variable {w : World} {d : Nat} {F : Nat → Prop} {s : St}
theorem dDead_any (hD : Disk w d F s) : Calls Try.prog 41 #[.pointer (some ⟨d, 0, none⟩)] w fun e w' => e = .returned (.bool (decide (s.power = 0))) ∧ w' = w := by
  obtain ⟨m, es, hC, hR, hfs, hF, hFl⟩ := hD
  exact dead_any hC
theorem dUsed_any (hD : Disk w d F s) : Calls Try.prog 40 #[.pointer (some ⟨d, 0, none⟩)] w fun e w' => e = .returned (.int .i64 (s.used : Int)) ∧ w' = w := by
  obtain ⟨m, es, hC, hR, hfs, hF, hFl⟩ := hD
  rw [used_of hfs]
  exact used_any hC
theorem dList_any (hD : Disk w d F s) (hn : s.fs.length ≤ 1073741823) : Calls Try.prog 36 #[.pointer (some ⟨d, 0, none⟩)] w (NamesPost (mList s) w) := by
  obtain ⟨m, es, hC, hR, hfs, hF, hFl⟩ := hD
  have hn2 : es.length ≤ 1073741823 := by rw [hfs, length_amap] at hn; exact hn
  have e : mList s = if s.power = 0 then [] else es.map (·.1) := by
    unfold mList; rw [hfs]; simp [amap, Function.comp_def]
  rw [e]
  exact list_any hC (by omega)
theorem dCut_any (hD : Disk w d F s) (r : Int) (hr : -9223372036854775808 ≤ r ∧ r ≤ 9223372036854775807) : Calls Try.prog 28 #[.pointer (some ⟨d, 0, none⟩), .int .i64 r] w fun e w' => e = .returned (.tuple #[]) ∧ DPost d F (mCut s r) w w' := by
  obtain ⟨m, es, hC, hR, hfs, hF, hFl⟩ := hD
  refine (cut_any hC r hr).mono ?_
  rintro e w' ⟨rfl, hC4, t⟩
  exact ⟨rfl, set_post hC hR hF hC4 t hfs⟩

set_option maxRecDepth 100000 in
set_option maxHeartbeats 400000 in
theorem new_any (r : Int) (hr : -9223372036854775808 ≤ r ∧ r ≤ 9223372036854775807) (w : World) : Calls Try.prog 9 #[.int .i64 r] w fun e w' => ∃ d F, e = .returned (.pointer (some ⟨d, 0, none⟩)) ∧ Disk w' d F (newSt r) ∧ Touch (fun _ => False) w w' ∧ ∀ k, F k → w.heap.size ≤ k := by
  have hmm := @run_makeMap Try.prog
  have hC : Core ((w.alloc (.map #[] 0)).alloc (.cells #[.map (some w.heap.size), .int .i64 0, .int .i64 0, .int .i64 (-1)] 67)) (w.heap.size + 1) w.heap.size 0 [] 0 (-1) := by
    refine ⟨?_, (World.ownsMap_made w _ _ _).alloc _, List.Pairwise.nil, (fun p hp => by cases hp), by decide, by decide, by decide, by decide, (fun p hp => by cases hp)⟩
    have := heap_alloc_new (w.alloc (.map #[] 0)) (.cells #[.map (some w.heap.size), .int .i64 0, .int .i64 0, .int .i64 (-1)] 67)
    have hs : (w.alloc (.map #[] 0)).heap.size = w.heap.size + 1 := by simp
    rw [hs] at this; exact this
  have HR : Hid (Calls Try.prog 26 #[.pointer (some ⟨w.heap.size + 1, 0, none⟩), .int .i64 r] ((w.alloc (.map #[] 0)).alloc (.cells #[.map (some w.heap.size), .int .i64 0, .int .i64 0, .int .i64 (-1)] 67)) fun e w' => e = .returned (.tuple #[]) ∧ Core w' (w.heap.size + 1) w.heap.size 0 [] (max r 0) (-1) ∧ Touch (fun k => k = w.heap.size + 1) _ w') := room_any hC r hr
  clear hC
  go_enter Try.func9, Try.ntmps9
  go_wp2_with fail
  refine HR.out.mono ?_
  rintro e w1 ⟨rfl, hC1, t⟩
  have HQ : Hid (∃ F, Disk w1 (w.heap.size + 1) F (newSt r) ∧ Touch (fun _ => False) w w1 ∧ ∀ k, F k → w.heap.size ≤ k) := by
    have t0 : Touch (fun _ => False) w ((w.alloc (.map #[] 0)).alloc (.cells #[.map (some w.heap.size), .int .i64 0, .int .i64 0, .int .i64 (-1)] 67)) := ((Touch.refl _ w).alloc _).alloc _
    refine ⟨fun k => k = w.heap.size + 1 ∨ k = w.heap.size, ⟨w.heap.size, [], hC1, ⟨(fun p hp => by cases hp), (fun p hp => by cases hp)⟩, rfl, ?_, ?_⟩, t0.then t ?_, ?_⟩
    · rintro k (e | e | ⟨p, hp, _⟩)
      · exact .inl e
      · exact .inr e
      · cases hp
    · rintro k (rfl | rfl)
      · exact hC1.lt
      · exact hC1.ltm
    · intro k hk e; omega
    · rintro k (e | e) <;> omega
  clear hC1 t
  go_wp2_with fail
  go_ret
  obtain ⟨F, h⟩ := HQ.out
  exact ⟨_, F, rfl, h⟩
end
end Go.Proofs.Ytfeojfcnphjbdaa

/- The contracts of disk's names, List. -/
import Derived.Test.YtfmpbkdmcgkeoaaPart5
import Derived.Test.YtfmpbkdmcgkeoaaDSmall
import Derived.Test.YtfmpbkdmcgkeoaaPosts
namespace Go.Proofs.Ytfmpbkdmcgkeoaa
open Go.RowKit Go.Maps Go.Sort
set_option linter.unusedVariables false

theorem rising_sorted (es : List (Key × Fl)) (h : Rising es) {ss : List Key} (hs : ss.Perm (es.map (·.1))) : ss.mergeSort (fun x y => decide (x ≤ y)) = es.map (·.1) := by
  have e : ss.mergeSort leB = (es.map (·.1)).mergeSort leB := mergeSort_of_perm hs
  refine e.trans (List.mergeSort_of_pairwise ?_)
  refine List.pairwise_map.2 (h.imp fun {p q} hpq => ?_)
  simp only [leB, decide_eq_true_eq]
  exact List.le_of_lt (before_lt _ _ hpq)

/-- Names, in a slice of the call's own. -/
def NamesPost (ks : List Key) (w : World) (e : Ending) (w' : World) : Prop :=
  ∃ v, e = .returned v ∧ w'.ownsRow w.heap.size 9 1 v ks.length (ks.map encStr) ∧ Touch (fun _ => False) w w'

set_option maxHeartbeats 1000000 in
theorem names_any {w : World} {d m n : Nat} {es : List (Key × Fl)} {room power : Int} (h : Core w d m n es room power) (hn : n ≤ 1073741824) :
    Calls Try.prog 49 #[.pointer (some ⟨d, 0, none⟩)] w (NamesPost (es.map (·.1)) w) := by
  have c0 := h.c0
  have hz : Maps.size (toD es) ≤ 1073741824 := by rw [toD_size]; exact Nat.le_trans h.len hn
  have HS : Hid (CallsIn Fence.wide 5 Try.prog 51 #[.func (.func 56) #[] #[.pointer (some ⟨w.heap.size, 0, none⟩)]] (w.alloc (.cells #[.map (some m)] 58)) fun e w' => ∃ v, e = .returned v ∧ w'.ownsRow w.heap.size 9 1 v (es.map (·.1)).length ((es.map (·.1)).map encStr) ∧ Touch (fun _ => False) w w') := by
    refine (Try.slices_Sorted_keys_51_52 m n (toD es) heldR w h.owns (Nat.le_trans hz (by unfold maxLen; omega)) (by omega)).mono ?_
    rintro e w' ⟨v, ss, rfl, hS, hrow, hnil, hb⟩
    rw [toD_keys] at hS
    rw [rising_sorted es h.rising hS, hS.length_eq] at hrow
    refine ⟨v, rfl, ownsRow_base_a hrow (by simp), ?_⟩
    exact ((Touch.refl _ w).alloc _).trans (touch_of_below hb)
  clear h hz
  refine (callsIn_wide (n := 6)).1 ?_
  have hfK : Fence.wide.fn 52 := trivial
  have hfS : Fence.wide.fn 51 := trivial
  refine callsIn_of_wp Try.func49 rfl trivial ?_ rfl
  simp only [Try.ntmps49, List.size_toArray, List.length_cons, List.length_nil, Nat.reduceAdd, Nat.reduceSub, Array.replicate_succ, Array.replicate_zero, List.push_toArray, List.append_toArray, List.nil_append, List.cons_append]
  gi_wp2_with (first
    | (gi_at_call 52; refine (Try.maps_Keys_52 _ _).mono ?_; rintro e w' ⟨rfl, rfl⟩)
    | (gi_at_call 51; refine HS.out.mono ?_; rintro e w' ⟨v, rfl, hv⟩))
  go_ret
  exact ⟨v, rfl, hv⟩

set_option maxHeartbeats 400000 in
theorem list_any {w : World} {d m n : Nat} {es : List (Key × Fl)} {room power : Int} (h : Core w d m n es room power) (hn : n ≤ 1073741824) :
    Calls Try.prog 32 #[.pointer (some ⟨d, 0, none⟩)] w (NamesPost (if power = 0 then [] else es.map (·.1)) w) := by
  have HD : Hid (Calls Try.prog 34 #[.pointer (some ⟨d, 0, none⟩)] w fun e w' => e = .returned (.bool (decide (power = 0))) ∧ w' = w) := dead_any h
  have HN : Hid (Calls Try.prog 49 #[.pointer (some ⟨d, 0, none⟩)] w (NamesPost (es.map (·.1)) w)) := names_any h hn
  clear h
  by_cases e : power = 0
  · rw [if_pos e]
    rw [decide_eq_true e] at HD
    have HQ : Hid (NamesPost [] w (.returned (.slice none 0 0)) w) := ⟨_, rfl, World.ownsRow_nil _ _ _ _, Touch.refl _ _⟩
    go_enter Try.func32, Try.ntmps32
    go_wp2_with fail
    refine HD.out.mono ?_
    rintro e1 w1 ⟨rfl, hw⟩
    rw [hw]; clear hw
    go_wp2_with fail
    go_ret
    exact HQ.out
  · rw [if_neg e]
    rw [decide_eq_false e] at HD
    generalize es.map (·.1) = ks at *
    go_enter Try.func32, Try.ntmps32
    go_wp2_with fail
    refine HD.out.mono ?_
    rintro e1 w1 ⟨rfl, hw⟩
    rw [hw]; clear hw
    go_wp2_with fail
    refine HN.out.mono ?_
    intro e1 w2 hP
    have HQ : Hid (NamesPost ks w e1 w2) := hP
    obtain ⟨v, rfl, _⟩ := hP
    go_wp2_with fail
    go_ret
    exact HQ.out
end Go.Proofs.Ytfmpbkdmcgkeoaa

/- The contracts of disk's New, and of its small calls on a disk in its state. -/
namespace Go.Proofs.Ytfmpbkdmcgkeoaa
open Go.RowKit Go.Maps Go.Sort
set_option linter.unusedVariables false

theorem DPost.trans {d : Nat} {F : Nat → Prop} {s1 s2 : St} {w w1 w2 : World} (h : DPost d F s1 w w1) (k : ∀ F1, Disk w1 d F1 s1 → DPost d F1 s2 w1 w2) : DPost d F s2 w w2 := by
  obtain ⟨F1, hD, t1, hf1⟩ := h
  obtain ⟨F2, hD2, t2, hf2⟩ := k F1 hD
  exact ⟨F2, hD2, t1.then t2 hf1, fun i hi h => hf1 i hi (hf2 i (Nat.lt_of_lt_of_le hi t1.size) h)⟩

section
variable {w : World} {d : Nat} {F : Nat → Prop} {s : St}
theorem dDead_any (hD : Disk w d F s) : Calls Try.prog 34 #[.pointer (some ⟨d, 0, none⟩)] w fun e w' => e = .returned (.bool (decide (s.power = 0))) ∧ w' = w := by
  obtain ⟨m, es, hC, hR, hfs, hF, hFl⟩ := hD
  exact dead_any hC
theorem dUsed_any (hD : Disk w d F s) : Calls Try.prog 33 #[.pointer (some ⟨d, 0, none⟩)] w fun e w' => e = .returned (.int .i64 (s.used : Int)) ∧ w' = w := by
  obtain ⟨m, es, hC, hR, hfs, hF, hFl⟩ := hD
  rw [used_of hfs]
  exact used_any hC
theorem dList_any (hD : Disk w d F s) (hn : s.fs.length ≤ 1073741823) : Calls Try.prog 32 #[.pointer (some ⟨d, 0, none⟩)] w (NamesPost (mList s) w) := by
  obtain ⟨m, es, hC, hR, hfs, hF, hFl⟩ := hD
  have hn2 : es.length ≤ 1073741823 := by rw [hfs, length_amap] at hn; exact hn
  have e : mList s = if s.power = 0 then [] else es.map (·.1) := by
    unfold mList; rw [hfs]; simp [amap, Function.comp_def]
  rw [e]
  exact list_any hC (by omega)
theorem dCut_any (hD : Disk w d F s) (r : Int) (hr : -9223372036854775808 ≤ r ∧ r ≤ 9223372036854775807) : Calls Try.prog 25 #[.pointer (some ⟨d, 0, none⟩), .int .i64 r] w fun e w' => e = .returned (.tuple #[]) ∧ DPost d F (mCut s r) w w' := by
  obtain ⟨m, es, hC, hR, hfs, hF, hFl⟩ := hD
  refine (cut_any hC r hr).mono ?_
  rintro e w' ⟨rfl, hC4, t⟩
  exact ⟨rfl, set_post hC hR hF hC4 t hfs⟩

set_option maxRecDepth 100000 in
set_option maxHeartbeats 400000 in
theorem new_any (r : Int) (hr : -9223372036854775808 ≤ r ∧ r ≤ 9223372036854775807) (w : World) : Calls Try.prog 6 #[.int .i64 r] w fun e w' => ∃ d F, e = .returned (.pointer (some ⟨d, 0, none⟩)) ∧ Disk w' d F (newSt r) ∧ Touch (fun _ => False) w w' ∧ ∀ k, F k → w.heap.size ≤ k := by
  have hmm := @run_makeMap Try.prog
  have hC : Core ((w.alloc (.map #[] 0)).alloc (.cells #[.map (some w.heap.size), .int .i64 0, .int .i64 0, .int .i64 (-1)] 60)) (w.heap.size + 1) w.heap.size 0 [] 0 (-1) := by
    refine ⟨?_, (World.ownsMap_made w _ _ _).alloc _, List.Pairwise.nil, (fun p hp => by cases hp), by decide, by decide, by decide, by decide, (fun p hp => by cases hp)⟩
    have := heap_alloc_new (w.alloc (.map #[] 0)) (.cells #[.map (some w.heap.size), .int .i64 0, .int .i64 0, .int .i64 (-1)] 60)
    have hs : (w.alloc (.map #[] 0)).heap.size = w.heap.size + 1 := by simp
    rw [hs] at this; exact this
  have HR : Hid (Calls Try.prog 23 #[.pointer (some ⟨w.heap.size + 1, 0, none⟩), .int .i64 r] ((w.alloc (.map #[] 0)).alloc (.cells #[.map (some w.heap.size), .int .i64 0, .int .i64 0, .int .i64 (-1)] 60)) fun e w' => e = .returned (.tuple #[]) ∧ Core w' (w.heap.size + 1) w.heap.size 0 [] (max r 0) (-1) ∧ Touch (fun k => k = w.heap.size + 1) _ w') := room_any hC r hr
  clear hC
  go_enter Try.func6, Try.ntmps6
  go_wp2_with fail
  refine HR.out.mono ?_
  rintro e w1 ⟨rfl, hC1, t⟩
  have HQ : Hid (∃ F, Disk w1 (w.heap.size + 1) F (newSt r) ∧ Touch (fun _ => False) w w1 ∧ ∀ k, F k → w.heap.size ≤ k) := by
    have t0 : Touch (fun _ => False) w ((w.alloc (.map #[] 0)).alloc (.cells #[.map (some w.heap.size), .int .i64 0, .int .i64 0, .int .i64 (-1)] 60)) := ((Touch.refl _ w).alloc _).alloc _
    refine ⟨fun k => k = w.heap.size + 1 ∨ k = w.heap.size, ⟨w.heap.size, [], hC1, ⟨(fun p hp => by cases hp), (fun p hp => by cases hp)⟩, rfl, ?_, ?_⟩, t0.then t ?_, ?_⟩
    · rintro k (e | e | ⟨p, hp, _⟩)
      · exact .inl e
      · exact .inr e
      · cases hp
    · rintro k (rfl | rfl)
      · exact hC1.lt
      · exact hC1.ltm
    · intro k hk e; omega
    · rintro k (e | e) <;> omega
  clear hC1 t
  go_wp2_with fail
  go_ret
  obtain ⟨F, h⟩ := HQ.out
  exact ⟨_, F, rfl, h⟩
end
end Go.Proofs.Ytfmpbkdmcgkeoaa

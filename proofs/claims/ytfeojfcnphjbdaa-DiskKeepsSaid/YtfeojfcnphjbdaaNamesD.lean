/- The contracts of disk's names, List. -/
import Derived.Test.YtfeojfcnphjbdaaIter
import Derived.Test.YtfeojfcnphjbdaaStrC
import Derived.Test.YtfeojfcnphjbdaaDSmall
namespace Go.Proofs.Ytfeojfcnphjbdaa
open Go.RowKit Go.Maps Go.Sort
set_option linter.unusedVariables false

theorem rising_sorted (es : List (Key × Fl)) (h : Rising es) {ss : List Key} (hs : ss.Perm (es.map (·.1))) : ss.mergeSort (fun x y => decide (x ≤ y)) = es.map (·.1) := by
  have e : ss.mergeSort leB = (es.map (·.1)).mergeSort leB := mergeSort_of_perm hs
  refine e.trans (List.mergeSort_of_pairwise ?_)
  refine List.pairwise_map.2 (h.imp fun {p q} hpq => ?_)
  simp only [leB, decide_eq_true_eq]
  exact List.le_of_lt (before_lt _ _ hpq)

/-- Names, in a slice of the call's own. -/
def NamesPost (ks : List Key) (w : World) (e : Ending) (w' : World) : Prop :=
  ∃ v, e = .returned v ∧ w'.ownsRow w.heap.size 9 1 v ks.length (ks.map encStr) ∧ Touch (fun _ => False) w w'

set_option maxHeartbeats 1000000 in
theorem names_any {w : World} {d m n : Nat} {es : List (Key × Fl)} {room power : Int} (h : Core w d m n es room power) (hn : n ≤ 1073741824) :
    Calls Try.prog 56 #[.pointer (some ⟨d, 0, none⟩)] w (NamesPost (es.map (·.1)) w) := by
  have c0 := h.c0
  have hz : Maps.size (toD es) ≤ 1073741824 := by rw [toD_size]; exact Nat.le_trans h.len hn
  have HS : Hid (CallsIn Fence.wide 5 Try.prog 58 #[.func (.func 63) #[] #[.pointer (some ⟨w.heap.size, 0, none⟩)]] (w.alloc (.cells #[.map (some m)] 65)) fun e w' => ∃ v, e = .returned v ∧ w'.ownsRow w.heap.size 9 1 v (es.map (·.1)).length ((es.map (·.1)).map encStr) ∧ Touch (fun _ => False) w w') := by
    refine (Try.slices_Sorted_keys_58_59 m n (toD es) heldR w h.owns (Nat.le_trans hz (by unfold maxLen; omega)) (by omega)).mono ?_
    rintro e w' ⟨v, ss, rfl, hS, hrow, hnil, hb⟩
    rw [toD_keys] at hS
    rw [rising_sorted es h.rising hS, hS.length_eq] at hrow
    refine ⟨v, rfl, ownsRow_base_a hrow (by simp), ?_⟩
    exact ((Touch.refl _ w).alloc _).trans (touch_of_below hb)
  clear h hz
  refine (callsIn_wide (n := 6)).1 ?_
  have hfK : Fence.wide.fn 59 := trivial
  have hfS : Fence.wide.fn 58 := trivial
  refine callsIn_of_wp Try.func56 rfl trivial ?_ rfl
  simp only [Try.ntmps56, List.size_toArray, List.length_cons, List.length_nil, Nat.reduceAdd, Nat.reduceSub, Array.replicate_succ, Array.replicate_zero, List.push_toArray, List.append_toArray, List.nil_append, List.cons_append]
  gi_wp2_with (first
    | (gi_at_call 59; refine (Try.maps_Keys_59 _ _).mono ?_; rintro e w' ⟨rfl, rfl⟩)
    | (gi_at_call 58; refine HS.out.mono ?_; rintro e w' ⟨v, rfl, hv⟩))
  go_ret
  exact ⟨v, rfl, hv⟩

set_option maxHeartbeats 400000 in
theorem list_any {w : World} {d m n : Nat} {es : List (Key × Fl)} {room power : Int} (h : Core w d m n es room power) (hn : n ≤ 1073741824) :
    Calls Try.prog 36 #[.pointer (some ⟨d, 0, none⟩)] w (NamesPost (if power = 0 then [] else es.map (·.1)) w) := by
  have HD : Hid (Calls Try.prog 41 #[.pointer (some ⟨d, 0, none⟩)] w fun e w' => e = .returned (.bool (decide (power = 0))) ∧ w' = w) := dead_any h
  have HN : Hid (Calls Try.prog 56 #[.pointer (some ⟨d, 0, none⟩)] w (NamesPost (es.map (·.1)) w)) := names_any h hn
  clear h
  by_cases e : power = 0
  · rw [if_pos e]
    rw [decide_eq_true e] at HD
    have HQ : Hid (NamesPost [] w (.returned (.slice none 0 0)) w) := ⟨_, rfl, World.ownsRow_nil _ _ _ _, Touch.refl _ _⟩
    go_enter Try.func36, Try.ntmps36
    go_wp2_with fail
    refine HD.out.mono ?_
    rintro e1 w1 ⟨rfl, hw⟩
    rw [hw]; clear hw
    go_wp2_with fail
    go_ret
    exact HQ.out
  · rw [if_neg e]
    rw [decide_eq_false e] at HD
    generalize es.map (·.1) = ks at *
    go_enter Try.func36, Try.ntmps36
    go_wp2_with fail
    refine HD.out.mono ?_
    rintro e1 w1 ⟨rfl, hw⟩
    rw [hw]; clear hw
    go_wp2_with fail
    refine HN.out.mono ?_
    intro e1 w2 hP
    have HQ : Hid (NamesPost ks w e1 w2) := hP
    obtain ⟨v, rfl, _⟩ := hP
    go_wp2_with fail
    go_ret
    exact HQ.out
end Go.Proofs.Ytfeojfcnphjbdaa

/- The document's tree of units (quireref9): among. -/
import Derived.Test.YtcolbgbmnmkogabRqE
namespace Go.Proofs.Ytcolbgbmnmkogab
open Go.RowKit
set_option linter.unusedVariables false
set_option linter.unusedSimpArgs false
set_option maxRecDepth 100000

theorem take_while_lt {α : Type} (p : α → Bool) : ∀ (l : List α) (j : Nat) (h : j < l.length), j < (l.takeWhile p).length → p l[j] = true
  | x :: l, j, h, hj => by
    by_cases hb : p x = true
    · simp only [List.takeWhile_cons, hb, if_true] at hj
      cases j with
      | zero => exact hb
      | succ j => exact take_while_lt p l j (by simpa using h) (by simpa using hj)
    · simp [hb] at hj
theorem take_while_at {α : Type} (p : α → Bool) : ∀ (l : List α) (h : (l.takeWhile p).length < l.length), p l[(l.takeWhile p).length] = false
  | x :: l, h => by
    by_cases hb : p x = true
    · have e : ((x :: l).takeWhile p).length = (l.takeWhile p).length + 1 := by simp [hb]
      simp only [e]
      exact take_while_at p l (by rw [e] at h; simpa using h)
    · have e : ((x :: l).takeWhile p).length = 0 := by simp [hb]
      simp only [e]
      simpa using hb
theorem take_while_le {α : Type} (p : α → Bool) (l : List α) : (l.takeWhile p).length ≤ l.length := (List.takeWhile_sublist _).length_le
set_option maxHeartbeats 8000000 in
theorem qamong_any {w : World} {b : Nat} {r : RS} (h : RqAt w b r) (v : Value) (l : List Nat) (hv : SlJ w v (ints l)) (me : Nat) (hme : me < r.l.length) (hls : ∀ x ∈ l, x < r.l.length) (hl : r.l.length ≤ 1073741820) (hll : l.length ≤ 1073741820) (ho : r.order.length ≤ 1073741820) :
    Calls Try.prog 43 #[qP b, v, iV (me : Int)] w fun e w' => ∃ v', e = .returned v' ∧ NewJ w w' v' (ints (r.amongL l me)) := by
  obtain ⟨I, hI⟩ : ∃ I, Hid (I = (l.takeWhile fun x => r.farther x me).length) := ⟨_, Eq.refl _⟩
  have hIl : I ≤ l.length := by rw [hI.out]; exact take_while_le _ _
  have HA : Hid (ints (r.amongL l me) = (ints l).take I ++ (me : Int) :: (ints l).drop I) := by
    unfold RS.amongL withinL ints
    rw [← hI.out, List.map_append, List.map_cons, List.map_take, List.map_drop]; rfl
  have HW : Hid (∀ W, Touch (fun _ => False) w W → Calls Try.prog 42 #[v, iV (I : Int), iV (me : Int)] W fun e w' => ∃ v', e = .returned v' ∧ NewJ W w' v' ((ints l).take I ++ (me : Int) :: (ints l).drop I)) := fun W t => qwithin_any (hv.touch t) I (by simpa using hIl) _ (by simpa using hll)
  have HFa : Hid (∀ W, Touch (fun _ => False) w W → ∀ j (hj : j < l.length), Calls Try.prog 66 #[qP b, iV ((l[j] : Nat) : Int), iV (me : Int)] W fun e w' => e = .returned (.bool (r.farther l[j] me)) ∧ Touch (fun _ => False) W w') := fun W t j hj => qfarther_any (h.keep t) _ _ (hls _ (List.getElem_mem _)) hme (by omega) (by omega)
  have HLt : Hid (∀ j (hj : j < l.length), j < I → r.farther l[j] me = true) := fun j hj hji => take_while_lt _ l j hj (by rw [← hI.out]; exact hji)
  have HAt : Hid (∀ (hj : I < l.length), r.farther l[I] me = false) := fun hj => by
    have := take_while_at (fun x => r.farther x me) l (by rw [← hI.out]; exact hj)
    simpa only [← hI.out] using this
  have HC : Hid (∀ W, Touch (fun _ => False) w W → ∃ ao cap, v = .slice ao l.length cap ∧ (0 < l.length → ∃ g o, ao = some ⟨g, o, none⟩ ∧ ∀ i (hi : i < l.length), W.cell? ⟨g, o + i, none⟩ = some (iV (l[i] : Int)))) := fun W t => (hv.touch t).nums
  obtain ⟨ao, cap, rfl, -⟩ := HC.out w (Touch.refl _ _)
  rw [HA.out]
  generalize (ints l).take I ++ (me : Int) :: (ints l).drop I = out at *
  clear h hv hls HA hI
  go_enter Try.func43, Try.ntmps43
  go_wp2_with fail
  go_loopw [7] (fun i wr => ∃ j : Nat, i = .int .i64 (j : Int) ∧ j ≤ I ∧ Hid (Touch (fun _ => False) w wr)) (fun i _ => (I - intOf i).toNat)
  case atStart => exact ⟨0, rfl, Nat.zero_le _, Touch.refl _ _⟩
  case round =>
    obtain ⟨j, rfl, hj, HJ⟩ := hrel
    by_cases hlt : j < l.length
    · obtain ⟨ao', cap', e, q2⟩ := HC.out _ HJ.out
      obtain ⟨g, o, rfl, q3⟩ := q2 (by omega)
      obtain ⟨rfl, -, rfl⟩ : ao = some ⟨g, o, none⟩ ∧ _ ∧ cap = cap' := by simpa only [Value.slice.injEq] using e
      have c0 := q3 j hlt
      clear q2 q3 e
      have HF1 := HFa.out _ HJ.out j hlt
      have l0 : (j : Int) < (l.length : Int) := by omega
      by_cases hji : j < I
      · have HR := HLt.out j hlt hji
        rw [HR] at HF1
        clear HR HLt HAt HFa
        generalize l[j] = x at *
        have HF2 : Hid (Calls Try.prog 66 #[qP b, iV (x : Int), iV (me : Int)] wr fun e w' => e = .returned (.bool true) ∧ Touch (fun _ => False) wr w') := HF1
        clear HF1
        go_wp2_with fail
        refine HF2.out.mono ?_
        rintro e w3 ⟨rfl, t3⟩
        go_wp2_with fail
        exact ⟨⟨j + 1, by go_num, by omega, HJ.out.trans t3⟩, by simp [intOf]; omega⟩
      · have hjI : j = I := by omega
        subst hjI
        have HR := HAt.out hlt
        rw [HR] at HF1
        clear HR HLt HAt HFa
        generalize l[j] = x at *
        have HF2 : Hid (Calls Try.prog 66 #[qP b, iV (x : Int), iV (me : Int)] wr fun e w' => e = .returned (.bool false) ∧ Touch (fun _ => False) wr w') := HF1
        clear HF1
        go_wp2_with fail
        refine HF2.out.mono ?_
        rintro e w3 ⟨rfl, t3⟩
        have HT3 : Hid (Touch (fun _ => False) w w3) := HJ.out.trans t3
        clear t3
        go_wp2_with fail
        refine (HW.out _ HT3.out).mono ?_
        rintro e w4 ⟨v', rfl, n4⟩
        have HN : Hid (NewJ w w4 v' out) := n4.since HT3.out
        clear n4
        go_wp2_with fail
        go_ret
        exact ⟨_, rfl, HN.out⟩
    · have hjI : j = I := by omega
      subst hjI
      have hjl : j = l.length := by omega
      clear HLt HAt HFa HC
      generalize l.length = n at *
      subst hjl
      go_wp2_with fail
      refine (HW.out _ HJ.out).mono ?_
      rintro e w4 ⟨v', rfl, n4⟩
      have HN : Hid (NewJ w w4 v' out) := n4.since HJ.out
      clear n4
      go_wp2_with fail
      go_ret
      exact ⟨_, rfl, HN.out⟩
end Go.Proofs.Ytcolbgbmnmkogab

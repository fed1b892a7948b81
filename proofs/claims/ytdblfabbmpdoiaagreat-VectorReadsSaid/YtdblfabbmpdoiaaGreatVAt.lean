/- The contract of vector.At; lists of clocks held against one another. -/
import Derived.Test.YtdblfabbmpdoiaaGreatPart1
import Derived.BigQuiet
import Derived.Deep.LoopGhost
import Derived.Deep.QuietTactic
namespace Go.Proofs.YtdblfabbmpdoiaaGreat
open Go.RowKit Go.Maps
set_option linter.unusedVariables false
set_option linter.unusedSimpArgs false
set_option maxRecDepth 100000

theorem atC_next {l : List Ck} {j : Nat} (hj : j < l.length) (c : Int) : atC (l.take (j + 1)) c = max (atC (l.take j) c) (if l[j].cap.ok = true ∧ l[j].c = c then l[j].cap.k else 0) := by
  rw [List.take_succ_eq_append_getElem hj, atC_append, atC_one]
set_option maxHeartbeats 1600000 in
theorem vat_any (l : List Ck) (v : Value) (c : Int) (w : World) (hs : SlC w v l) (hll : l.length ≤ 1073741824) :
    Calls Tryz.prog 22 #[v, u64 c] w fun e w' => e = .returned (u64 (atC l c)) ∧ Touch (fun _ => False) w w' := by
  have HSl : Hid (SlC w v l) := hs
  obtain ⟨ao1, cap1, rfl, _⟩ := hs
  have HTo := fun x W => told_any x W
  go_enter Tryz.func22, Tryz.ntmps22
  go_wp2_with fail
  go_loopg [5, 12] l.length (fun g s5 s12 wx => ∃ (j : Nat) (n : Int), j + g = l.length ∧ s12 = .int .i64 (j : Int) ∧ s5 = u64 n ∧ Hid (n = atC (l.take j) c ∧ Touch (fun _ => False) w wx))
  case atStart => exact ⟨0, 0, by omega, rfl, rfl, ⟨rfl, Touch.refl _ _⟩⟩
  case round =>
    obtain ⟨j, n, hjg, rfl, rfl, H⟩ := hrel
    by_cases hlt : j < l.length
    · have hne : l ≠ [] := by rintro rfl; simp at hlt
      obtain ⟨b, o, cp, e, _, _, hb, hrow⟩ := (HSl.out.touch H.out.2).row hne
      obtain ⟨rfl, _, rfl⟩ : ao1 = some ⟨b, o, none⟩ ∧ True ∧ cap1 = cp := by simpa using e
      obtain ⟨c0, c1⟩ := hrow j hlt
      have HE : Hid (atC (l.take (j + 1)) c = max n (if l[j].cap.ok = true ∧ l[j].c = c then l[j].cap.k else 0) ∧ 0 ≤ n) := ⟨by rw [atC_next hlt, ← H.out.1], by rw [H.out.1]; exact (atC_pos _ _).1⟩
      have HT : Hid (Touch (fun _ => False) w wr) := H.out.2
      generalize l[j] = x at *
      have HT' := HTo x
      clear HTo hrow e hne H
      obtain ⟨xc, xk⟩ := x
      have hXc : (⟨xc, xk⟩ : Ck).cap = ⟨xc, min xk 9007199254740991⟩ := rfl
      rw [hXc] at HT' HE
      clear hXc
      generalize min xk 9007199254740991 = mk at *
      simp only at HT' HE c0 c1
      generalize Ck.ok ⟨xc, mk⟩ = tl at *
      cases tl with
      | false =>
        have HN : Hid (atC (l.take (j + 1)) c = n) := by
          have := HE.out
          simp only [Bool.false_eq_true, false_and, if_false] at this
          show atC (l.take (j + 1)) c = n
          omega
        clear HE
        go_wp2_with fail
        refine (HT' _).mono ?_
        rintro e w2 ⟨rfl, t2⟩
        have HT2 : Hid (Touch (fun _ => False) w (w2.alloc (ckO ⟨xc, mk⟩))) := ((HT.out.alloc _).trans t2).alloc _
        clear t2 HT'
        go_wp2_with fail
        go_roundg (l.length - (j + 1))
        case measure => omega
        case rel => exact ⟨j + 1, n, by omega, by go_num, rfl, ⟨HN.out.symm, HT2.out⟩⟩
      | true =>
        by_cases hc : xc = c
        · subst hc
          have HN : Hid (atC (l.take (j + 1)) xc = max n mk) := by
            have := HE.out.1
            simp only [true_and, if_true, and_self] at this
            exact this
          clear HE
          go_wp2_with fail
          refine (HT' _).mono ?_
          rintro e w2 ⟨rfl, t2⟩
          have HT2 : Hid (Touch (fun _ => False) w (w2.alloc (ckO ⟨xc, mk⟩))) := ((HT.out.alloc _).trans t2).alloc _
          clear t2 HT'
          go_wp2_with fail
          go_roundg (l.length - (j + 1))
          case measure => omega
          case rel => exact ⟨j + 1, _, by omega, by go_num, rfl, ⟨HN.out.symm, HT2.out⟩⟩
        · have HN : Hid (atC (l.take (j + 1)) c = n) := by
            have := HE.out
            rw [if_neg (fun q => hc q.2)] at this
            show atC (l.take (j + 1)) c = n
            omega
          have hc1 : (xc == c) = false := by simpa using hc
          clear HE
          go_wp2_with fail
          refine (HT' _).mono ?_
          rintro e w2 ⟨rfl, t2⟩
          have HT2 : Hid (Touch (fun _ => False) w (w2.alloc (ckO ⟨xc, mk⟩))) := ((HT.out.alloc _).trans t2).alloc _
          clear t2 HT'
          go_wp2_with fail
          go_roundg (l.length - (j + 1))
          case measure => omega
          case rel => exact ⟨j + 1, n, by omega, by go_num, rfl, ⟨HN.out.symm, HT2.out⟩⟩
    · have hjl : j = l.length := by omega
      subst hjl
      have HQ : Hid (n = atC l c ∧ Touch (fun _ => False) w wr) := by
        have := H.out
        rw [List.take_length] at this
        exact this
      clear H
      go_wp2_with fail
      refine bodyPost_ret (v := u64 n) (by simp [results, Tryz.results22, go_sem]) rfl ?_
      exact ⟨by rw [HQ.out.1], HQ.out.2⟩
set_option maxHeartbeats 1600000 in
theorem clocksEq_any (a : List Ck) (va vb : Value) (w : World) (ha : SlC w va a) (hb : SlC w vb a) (hll : a.length ≤ 1073741824) :
    Calls Tryz.prog 14 #[va, vb] w fun e w' => e = .returned (.bool true) ∧ Touch (fun _ => False) w w' := by
  have HA : Hid (SlC w va a) := ha
  have HB : Hid (SlC w vb a) := hb
  obtain ⟨aoa, capa, rfl, _⟩ := ha
  obtain ⟨aob, capb, rfl, _⟩ := hb
  go_enter Tryz.func14, Tryz.ntmps14
  go_wp2_with fail
  go_loopg [5] a.length (fun g s5 wx => ∃ (j q : Nat), j + g = a.length ∧ s5 = .int .i64 (j : Int) ∧ wx = w.drewN q)
  case atStart => exact ⟨0, 0, by omega, rfl, rfl⟩
  case round =>
    obtain ⟨j, q, hjg, rfl, hwr⟩ := hrel
    rw [hwr]
    by_cases hlt : j < a.length
    · have hne : a ≠ [] := by rintro rfl; simp at hlt
      obtain ⟨b, o, cp, e, _, _, hb, hrow⟩ := HA.out.row hne
      obtain ⟨rfl, _, rfl⟩ : aoa = some ⟨b, o, none⟩ ∧ True ∧ capa = cp := by simpa using e
      obtain ⟨b', o', cp', e', _, _, hb', hrow'⟩ := HB.out.row hne
      obtain ⟨rfl, _, rfl⟩ : aob = some ⟨b', o', none⟩ ∧ True ∧ capb = cp' := by simpa using e'
      obtain ⟨c0, c1⟩ := hrow j hlt
      obtain ⟨d0, d1⟩ := hrow' j hlt
      generalize a[j] = r at *
      have hi1 : (0 : Int) ≤ (j : Int) := by omega
      have hi2 : (j : Int) < (a.length : Int) := by omega
      clear hrow hrow' e e' hne hwr
      go_wp2_with fail
      go_quiet (fail)
      go_wp2_with fail
      go_roundg (a.length - (j + 1))
      case measure => omega
      case rel => exact ⟨j + 1, _, by omega, by go_num, rfl⟩
    · have hjl : j = a.length := by omega
      subst hjl
      clear hwr
      go_wp2_with fail
      go_ret
      exact ⟨rfl, ⟨rfl, rfl, rfl, Nat.le_refl _, fun _ _ _ => rfl⟩⟩
set_option maxHeartbeats 400000 in
theorem vlight_any (n : Nat) (ao : Option Addr) (cap : Nat) (w : World) : Calls Tryz.prog 6 #[.slice ao n cap] w fun e w' => e = .returned (.bool (decide (n ≤ 60))) ∧ w' = w := by
  by_cases h : n ≤ 60
  · have h1 : (n : Int) ≤ 60 := by omega
    go_enter Tryz.func6, Tryz.ntmps6
    go_wp2_with fail
    go_ret
    exact ⟨by simp [h], rfl⟩
  · have h1 : ¬ (n : Int) ≤ 60 := by omega
    go_enter Tryz.func6, Tryz.ntmps6
    go_wp2_with fail
    go_ret
    exact ⟨by simp [h], rfl⟩
end Go.Proofs.YtdblfabbmpdoiaaGreat

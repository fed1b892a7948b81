/- The contract of the document's At. -/
import Derived.Test.YtdblfabbmpdoiaaGreatVecM
import Derived.Test.YtdblfabbmpdoiaaGreatRowC
import Derived.Deep.LoopGhost
import Derived.BigQuiet
import Derived.Deep.QuietTactic
namespace Go.Proofs.YtdblfabbmpdoiaaGreat
open Go.RowKit Go.Maps
set_option linter.unusedVariables false
set_option linter.unusedSimpArgs false
set_option maxRecDepth 100000

theorem atC_go {l : List Ck} {j : Nat} (hj : j < l.length) (c : Int) : atC (l.take (j + 1)) c = if l[j].c = c ∧ 1 ≤ c ∧ c ≤ 9007199254740991 then max (atC (l.take j) c) (min l[j].k 9007199254740991) else atC (l.take j) c := by
  rw [List.take_succ_eq_append_getElem hj, atC_append]
  have := atC_pos (l.take j) c
  have e : atC [l[j]] c = if l[j].c = c ∧ 1 ≤ c ∧ c ≤ 9007199254740991 then max (min l[j].k 9007199254740991) 0 else 0 := rfl
  rw [e]
  split <;> omega
set_option maxHeartbeats 1600000 in
theorem rat_any (l : List Ck) (v : Value) (c : Int) (w : World) (hs : SlC w v l) (hll : l.length ≤ 1073741824) :
    Calls Tryz.prog 36 #[v, u64 c] w fun e w' => e = .returned (u64 (atC l c)) ∧ w' = w := by
  have HSl : Hid (SlC w v l) := hs
  obtain ⟨ao1, cap1, rfl, _⟩ := hs
  go_enter Tryz.func36, Tryz.ntmps36
  go_wp2_with fail
  go_loopg [5, 6] l.length (fun g s5 s6 wx => ∃ (j : Nat) (n : Int), j + g = l.length ∧ s6 = .int .i64 (j : Int) ∧ s5 = u64 n ∧ Hid (n = atC (l.take j) c) ∧ wx = w)
  case atStart => exact ⟨0, 0, by omega, rfl, rfl, rfl, rfl⟩
  case round =>
    obtain ⟨j, n, hjg, rfl, rfl, H, rfl⟩ := hrel
    by_cases hlt : j < l.length
    · have hne : l ≠ [] := by rintro rfl; simp at hlt
      obtain ⟨b, o, cp, e, _, _, hb, hrow⟩ := HSl.out.row hne
      obtain ⟨rfl, _, rfl⟩ : ao1 = some ⟨b, o, none⟩ ∧ True ∧ cap1 = cp := by simpa using e
      obtain ⟨c0, c1⟩ := hrow j hlt
      have HE : Hid (atC (l.take (j + 1)) c = if l[j].c = c ∧ 1 ≤ c ∧ c ≤ 9007199254740991 then max n (min l[j].k 9007199254740991) else n) := by rw [Hid, atC_go hlt, ← H.out]
      generalize l[j] = x at *
      obtain ⟨xc, xk⟩ := x
      simp only at HE c0 c1
      clear hrow e hne H
      by_cases hc : xc = c
      · subst hc
        by_cases h1 : 1 ≤ xc
        · by_cases h2 : xc ≤ 9007199254740991
          · have HN : Hid (atC (l.take (j + 1)) xc = max n (min xk 9007199254740991)) := by rw [Hid, HE.out, if_pos ⟨rfl, h1, h2⟩]
            clear HE
            go_wp2_with fail
            go_roundg (l.length - (j + 1))
            case measure => omega
            case rel => exact ⟨j + 1, _, by omega, by go_num, rfl, HN.out.symm, rfl⟩
          · have HN : Hid (atC (l.take (j + 1)) xc = n) := by rw [Hid, HE.out, if_neg (by omega)]
            clear HE
            go_wp2_with fail
            go_roundg (l.length - (j + 1))
            case measure => omega
            case rel => exact ⟨j + 1, _, by omega, by go_num, rfl, HN.out.symm, rfl⟩
        · have HN : Hid (atC (l.take (j + 1)) xc = n) := by rw [Hid, HE.out, if_neg (by omega)]
          clear HE
          go_wp2_with fail
          go_roundg (l.length - (j + 1))
          case measure => omega
          case rel => exact ⟨j + 1, _, by omega, by go_num, rfl, HN.out.symm, rfl⟩
      · have HN : Hid (atC (l.take (j + 1)) c = n) := by rw [Hid, HE.out, if_neg (by omega)]
        have hc1 : (xc == c) = false := by simpa using hc
        clear HE
        go_wp2_with fail
        go_roundg (l.length - (j + 1))
        case measure => omega
        case rel => exact ⟨j + 1, _, by omega, by go_num, rfl, HN.out.symm, rfl⟩
    · have hjl : j = l.length := by omega
      subst hjl
      have HQ : Hid (n = atC l c) := by have := H.out; rwa [List.take_length] at this
      clear H
      go_wp2_with fail
      refine bodyPost_ret (v := u64 n) (by simp [results, Tryz.results36, go_sem]) rfl ?_
      exact ⟨by rw [HQ.out], rfl⟩
end Go.Proofs.YtdblfabbmpdoiaaGreat

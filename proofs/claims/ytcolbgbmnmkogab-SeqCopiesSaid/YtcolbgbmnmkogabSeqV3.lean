/- The library's search by halves, at the question of placeOf. -/
import Derived.Test.YtcolbgbmnmkogabSeqU3
namespace Go.Proofs.Ytcolbgbmnmkogab
open Go.RowKit
set_option linter.unusedVariables false
set_option linter.unusedSimpArgs false
set_option maxRecDepth 100000

theorem bis_succ (p : Nat → Bool) (f i j : Nat) : bis p (f + 1) i j = if i < j then (if p ((i + j) / 2) then bis p f i ((i + j) / 2) else bis p f ((i + j) / 2 + 1) j) else i := rfl
theorem bis_fuel {p : Nat → Bool} : ∀ (f g i j : Nat), j - i ≤ f → j - i ≤ g → bis p f i j = bis p g i j
  | 0, 0, i, j, _, _ => rfl
  | 0, g + 1, i, j, h, _ => by rw [bis_succ, if_neg (by omega)]; rfl
  | f + 1, 0, i, j, _, h => by rw [bis_succ, if_neg (by omega)]; rfl
  | f + 1, g + 1, i, j, h1, h2 => by
    rw [bis_succ, bis_succ]
    by_cases h : i < j
    · rw [if_pos h, if_pos h]
      cases p ((i + j) / 2) with
      | true => rw [if_pos rfl, if_pos rfl]; exact bis_fuel f g _ _ (by omega) (by omega)
      | false => rw [if_neg (by simp), if_neg (by simp)]; exact bis_fuel f g _ _ (by omega) (by omega)
    · rw [if_neg h, if_neg h]
theorem bis_le {p : Nat → Bool} : ∀ (f i j : Nat), i ≤ j → i ≤ bis p f i j ∧ bis p f i j ≤ j
  | 0, i, j, h => ⟨Nat.le_refl _, h⟩
  | f + 1, i, j, h => by
    rw [bis_succ]
    by_cases hl : i < j
    · rw [if_pos hl]
      cases p ((i + j) / 2) with
      | true => rw [if_pos rfl]; have := bis_le (p := p) f i ((i + j) / 2) (by omega); omega
      | false => rw [if_neg (by simp)]; have := bis_le (p := p) f ((i + j) / 2 + 1) j (by omega); omega
    · rw [if_neg hl]; omega
set_option maxHeartbeats 8000000 in
theorem search_any {w : World} (n : Nat) (hn : n ≤ 1152921504606846976) (p : Nat → Bool) (c1 c2 c3 c4 c5 : Value)
    (HP : ∀ (W : World) (i : Nat), Touch (fun _ => False) w W → i < n → Calls Try.prog 64 #[iV (i : Int), c1, c2, c3, c4, c5] W fun e w' => e = .returned (.bool (p i)) ∧ Touch (fun _ => False) W w') :
    Calls Try.prog 63 #[iV (n : Int), .func (.func 64) #[] #[c1, c2, c3, c4, c5]] w fun e w' => e = .returned (iV (bis p n 0 n : Int)) ∧ Touch (fun _ => False) w w' := by
  have HPx : Hid (∀ (W : World) (i : Nat), Touch (fun _ => False) w W → i < n → Calls Try.prog 64 #[iV (i : Int), c1, c2, c3, c4, c5] W fun e w' => e = .returned (.bool (p i)) ∧ Touch (fun _ => False) W w') := HP
  obtain ⟨res, hres⟩ : ∃ r, Hid (r = bis p n 0 n) := ⟨_, Eq.refl _⟩
  rw [← hres.out]
  clear HP
  go_enter Try.func63, Try.ntmps63
  go_wp2_with fail
  go_loopg [5, 6] n (fun gk s5 s6 wx => ∃ i j : Nat, s5 = iV (i : Int) ∧ s6 = iV (j : Int) ∧ i ≤ j ∧ j ≤ n ∧ Hid (j - i = gk) ∧ Hid (Touch (fun _ => False) w wx ∧ res = bis p gk i j))
  case atStart => exact ⟨0, n, rfl, rfl, Nat.zero_le _, Nat.le_refl _, Nat.sub_zero _, Touch.refl _ _, hres.out⟩
  case round =>
    obtain ⟨i, j, rfl, rfl, hij, hjn, hgk, HI⟩ := hrel
    obtain ⟨W0, hW0⟩ : ∃ X, X = wr := ⟨_, rfl⟩
    subst hW0
    by_cases hlt : i < j
    · obtain ⟨h, hh⟩ : ∃ h, Hid (h = (i + j) / 2) := ⟨_, Eq.refl _⟩
      have hb : i ≤ h ∧ h < j := by rw [hh.out]; omega
      have eh : ((i : Int) + (j : Int)) / 2 = (h : Int) := by rw [hh.out]; omega
      have HC : Hid (Calls Try.prog 64 #[iV (h : Int), c1, c2, c3, c4, c5] W0 fun e w' => e = .returned (.bool (p h)) ∧ Touch (fun _ => False) W0 w') := HPx.out W0 h HI.out.1 (by omega)
      obtain ⟨g', hg⟩ : ∃ g', gk = g' + 1 := ⟨gk - 1, by have := hgk.out; omega⟩
      have HR : Hid (res = if p h then bis p g' i h else bis p g' (h + 1) j) := by
        have := HI.out.2
        rw [hg, bis_succ, if_pos hlt, ← hh.out] at this
        exact this
      have HG : Hid (j - i = g' + 1) := by rw [← hg]; exact hgk.out
      have l1 : (i : Int) < (j : Int) := by omega
      have hjI : (j : Int) ≤ 1152921504606846976 := by omega
      clear hgk hh
      go_wp2_with fail
      refine HC.out.mono ?_
      rintro e W1 ⟨rfl, t1⟩
      have HT1 : Hid (Touch (fun _ => False) w W1) := HI.out.1.trans t1
      clear t1 HC HI
      generalize p h = ph at *
      cases ph
      · go_wp2_with fail
        go_roundg (j - (h + 1))
        case measure => have := HG.out; omega
        case rel => exact ⟨h + 1, j, by go_num, rfl, by omega, hjn, rfl, HT1.out, by have := HG.out; rw [HR.out]; exact bis_fuel _ _ _ _ (by omega) (by omega)⟩
      · go_wp2_with fail
        go_roundg (h - i)
        case measure => have := HG.out; omega
        case rel => exact ⟨i, h, rfl, rfl, by omega, by omega, rfl, HT1.out, by have := HG.out; rw [HR.out]; exact bis_fuel _ _ _ _ (by omega) (by omega)⟩
    · have HX : Hid (res = i) := by
        rw [HI.out.2]
        cases gk with
        | zero => rfl
        | succ g' => rw [bis_succ]; exact if_neg hlt
      have l1 : ¬ (i : Int) < (j : Int) := by omega
      go_wp2_with fail
      go_ret
      exact ⟨congrArg (fun x : Nat => Ending.returned (iV (x : Int))) HX.out.symm, HI.out.1⟩
end Go.Proofs.Ytcolbgbmnmkogab

/- Package seq: Len, rightOf. -/
import Derived.Test.YtdnhoicfolkbnaaGreatPart8
import Derived.Test.YtdnhoicfolkbnaaGreatSeqV2
namespace Go.Proofs.YtdnhoicfolkbnaaGreat
open Go.RowKit
set_option linter.unusedVariables false
set_option linter.unusedSimpArgs false
set_option maxRecDepth 100000

set_option maxHeartbeats 4000000 in
theorem len_any {w : World} {B : Bk} {S : SS} (h : SeqM w B S) :
    Calls Tryz.prog 35 #[sP B] w fun e w' => e = .returned (iV S.total) ∧ Touch (fun _ => False) w w' := by
  have HL : Hid (Calls Tryz.prog 65 #[rP B.b 2] w fun e w' => e = .returned (iV S.total) ∧ Touch (fun _ => False) w w') := r_length h.ord
  generalize S.total = t at *
  clear h
  go_enter Tryz.func35, Tryz.ntmps35
  go_wp2_with fail
  refine HL.out.mono ?_
  rintro e w1 ⟨rfl, t1⟩
  go_wp2_with fail
  go_ret
  exact ⟨rfl, t1⟩
set_option maxHeartbeats 4000000 in
theorem rightOf_any {w : World} {B : Bk} {S : SS} (h : SeqM w B S) (hI : Inv S) (u : Un) (hu : u.ok) :
    Calls Tryz.prog 94 #[sP B, .agg #[u64 (u).c, u64 (u).k, u64 (u).lc, u64 (u).lk, u64 (u).rc, u64 (u).rk]] w fun e w' => e = .returned (iV (S.rightOf u)) ∧ Touch (fun _ => False) w w' := by
  have hT : Touch (fun _ => False) w (w.alloc (.cells #[u64 u.c, u64 u.k, u64 u.lc, u64 u.lk, u64 u.rc, u64 u.rk] 59)) := (Touch.refl _ _).alloc _
  have HL : Hid (Calls Tryz.prog 35 #[sP B] (w.alloc (.cells #[u64 u.c, u64 u.k, u64 u.lc, u64 u.lk, u64 u.rc, u64 u.rk] 59)) fun e w' => e = .returned (iV S.total) ∧ Touch (fun _ => False) (w.alloc (.cells #[u64 u.c, u64 u.k, u64 u.lc, u64 u.lk, u64 u.rc, u64 u.rk] 59)) w') := len_any (h.keep0 hT)
  have HF : Hid (Calls Tryz.prog 36 #[sP B, .agg #[u64 u.rc, u64 u.rk]] (w.alloc (.cells #[u64 u.c, u64 u.k, u64 u.lc, u64 u.lk, u64 u.rc, u64 u.rk] 59)) fun e w' => e = .returned (iV (S.find u.rc u.rk)) ∧ Touch (fun _ => False) (w.alloc (.cells #[u64 u.c, u64 u.k, u64 u.lc, u64 u.lk, u64 u.rc, u64 u.rk] 59)) w') := find_any (h.keep0 hT) hI u.rc u.rk hu.rc hu.rk.1 hu.rk.2
  have HT : Hid (Touch (fun _ => False) w (w.alloc (.cells #[u64 u.c, u64 u.k, u64 u.lc, u64 u.lk, u64 u.rc, u64 u.rk] 59))) := hT
  obtain ⟨uc, uk, ulc, ulk, urc, urk⟩ := u
  unfold SS.rightOf
  simp only at HL HF HT ⊢
  generalize S.find urc urk = fd at *
  generalize S.total = tt at *
  obtain ⟨res, hres⟩ : ∃ r, Hid (r = if urc = 0 ∧ urk = 0 then tt else fd) := ⟨_, Eq.refl _⟩
  rw [← hres.out]
  clear h hI hu hT
  by_cases h1 : urc = 0
  · by_cases h2 : urk = 0
    · have HR : Hid (res = tt) := by rw [hres.out]; exact if_pos ⟨h1, h2⟩
      have e1 : (urc == 0) = true := by simp [h1]
      have e2 : (urk == 0) = true := by simp [h2]
      clear h1 h2
      go_enter Tryz.func94, Tryz.ntmps94
      go_wp2_with fail
      refine HL.out.mono ?_
      rintro e w1 ⟨rfl, t1⟩
      go_wp2_with fail
      go_ret
      exact ⟨congrArg (fun x => Ending.returned (iV x)) HR.out.symm, HT.out.trans t1⟩
    · have HR : Hid (res = fd) := by rw [hres.out]; exact if_neg (fun h => h2 h.2)
      have e1 : (urc == 0) = true := by simp [h1]
      have e2 : (urk == 0) = false := by simp [h2]
      clear h1 h2
      go_enter Tryz.func94, Tryz.ntmps94
      go_wp2_with fail
      refine HF.out.mono ?_
      rintro e w1 ⟨rfl, t1⟩
      go_wp2_with fail
      go_ret
      exact ⟨congrArg (fun x => Ending.returned (iV x)) HR.out.symm, HT.out.trans t1⟩
  · have HR : Hid (res = fd) := by rw [hres.out]; exact if_neg (fun h => h1 h.1)
    have e1 : (urc == 0) = false := by simp [h1]
    clear h1
    go_enter Tryz.func94, Tryz.ntmps94
    go_wp2_with fail
    refine HF.out.mono ?_
    rintro e w1 ⟨rfl, t1⟩
    go_wp2_with fail
    go_ret
    exact ⟨congrArg (fun x => Ending.returned (iV x)) HR.out.symm, HT.out.trans t1⟩
end Go.Proofs.YtdnhoicfolkbnaaGreat

/- Package seq: between, isAhead. -/
namespace Go.Proofs.YtdnhoicfolkbnaaGreat
open Go.RowKit
set_option linter.unusedVariables false
set_option linter.unusedSimpArgs false
set_option maxRecDepth 100000

theorem Inv.find_bd {S : SS} (h : Inv S) (c k : Int) (hk : 0 ≤ k) (hc : 0 ≤ c) : -1 ≤ S.find c k ∧ S.find c k ≤ 9288674231451648 := by
  have h1 := h.ahead_le (S.piece c k)
  have h2 := h.len_le (S.piece c k)
  have h3 := h.piece_le c k hc hk
  unfold SS.find
  split
  · exact ⟨by omega, by omega⟩
  · next hn =>
    have a : (S.first (S.piece c k)).c = c := Decidable.byContradiction fun e => hn (.inl e)
    have b : ¬ S.len (S.piece c k) ≤ k - (S.first (S.piece c k)).k := fun e => hn (.inr e)
    exact ⟨by omega, by omega⟩
theorem unO_cells {W : World} {n : Nat} {u : Un} (h : W.heap[n]? = some (unO u)) : W.cell? ⟨n, 0, none⟩ = some (u64 u.c) ∧ W.cell? ⟨n, 1, none⟩ = some (u64 u.k) ∧ W.cell? ⟨n, 2, none⟩ = some (u64 u.lc) ∧ W.cell? ⟨n, 3, none⟩ = some (u64 u.lk) ∧ W.cell? ⟨n, 4, none⟩ = some (u64 u.rc) ∧ W.cell? ⟨n, 5, none⟩ = some (u64 u.rk) :=
  ⟨by rw [cell_of_block h]; rfl, by rw [cell_of_block h]; rfl, by rw [cell_of_block h]; rfl, by rw [cell_of_block h]; rfl, by rw [cell_of_block h]; rfl, by rw [cell_of_block h]; rfl⟩
set_option maxHeartbeats 8000000 in
theorem between_any {w : World} {B : Bk} {S : SS} (h : SeqM w B S) (hI : Inv S) (u : Un) (hu : u.ok) :
    Calls Tryz.prog 55 #[sP B, .agg #[u64 (u).c, u64 (u).k, u64 (u).lc, u64 (u).lk, u64 (u).rc, u64 (u).rk]] w fun e w' => e = .returned (.tuple #[iV (S.between u).1, iV (S.between u).2.1, .bool (S.between u).2.2]) ∧ Touch (fun _ => False) w w' := by
  obtain ⟨E, hE⟩ : ∃ E, Hid (E = w.alloc (unO u)) := ⟨_, Eq.refl _⟩
  have HTE : Hid (Touch (fun _ => False) w E) := by rw [hE.out]; exact (Touch.refl _ _).alloc _
  have HEB : Hid (E.heap[w.heap.size]? = some (unO u)) := by rw [hE.out]; exact heap_alloc_new _ _
  have HC : Hid (∀ W, Touch (fun _ => False) E W → W.cell? ⟨w.heap.size, 0, none⟩ = some (u64 u.c) ∧ W.cell? ⟨w.heap.size, 1, none⟩ = some (u64 u.k) ∧ W.cell? ⟨w.heap.size, 2, none⟩ = some (u64 u.lc) ∧ W.cell? ⟨w.heap.size, 3, none⟩ = some (u64 u.lk) ∧ W.cell? ⟨w.heap.size, 4, none⟩ = some (u64 u.rc) ∧ W.cell? ⟨w.heap.size, 5, none⟩ = some (u64 u.rk)) := fun W t => unO_cells (heap_keep t HEB.out)
  have HF : Hid (∀ W, Touch (fun _ => False) E W → Calls Tryz.prog 36 #[sP B, .agg #[u64 u.lc, u64 u.lk]] W fun e w' => e = .returned (iV (S.find u.lc u.lk)) ∧ Touch (fun _ => False) W w') := fun W t => find_any (h.keep0 (HTE.out.trans t)) hI u.lc u.lk hu.lc hu.lk.1 hu.lk.2
  have HR : Hid (∀ W, Touch (fun _ => False) E W → Calls Tryz.prog 94 #[sP B, .agg #[u64 (u).c, u64 (u).k, u64 (u).lc, u64 (u).lk, u64 (u).rc, u64 (u).rk]] W fun e w' => e = .returned (iV (S.rightOf u)) ∧ Touch (fun _ => False) W w') := fun W t => rightOf_any (h.keep0 (HTE.out.trans t)) hI u hu
  have hfb := hI.find_bd u.lc u.lk hu.lk.1 hu.lc
  unfold SS.between
  generalize S.find u.lc u.lk = fd at *
  generalize S.rightOf u = rt at *
  obtain ⟨uc, uk, ulc, ulk, urc, urk⟩ := u
  simp only at HC HF HR ⊢
  have e0 : IntKind.i64.wrap (fd + 1) = fd + 1 := by rw [IntKind.wrap_i64]; omega
  obtain ⟨res, hres⟩ : ∃ r : Int × Int × Bool, Hid (r = if (fd + 1 = 0 ∧ ¬ (ulc = 0 ∧ ulk = 0)) ∨ rt < fd + 1 then (0, 0, false) else (fd + 1, rt, true)) := ⟨_, Eq.refl _⟩
  rw [← hres.out]
  have S0 := HC.out _ (Touch.refl _ E).drew
  clear h hI hu hfb
  go_enter Tryz.func55, Tryz.ntmps55
  go_upto_region 1 with fail
  rw [← hE.out]
  clear hE HEB
  obtain ⟨n, hn⟩ : ∃ m, Hid (m = w.heap.size) := ⟨_, Eq.refl _⟩
  rw [← hn.out] at S0 HC ⊢
  go_cut [4, 5] (fun t s wx => t = iV (fd + 1) ∧ s = iV rt ∧ Hid (Touch (fun _ => False) E wx))
  case first =>
    go_wp2_with fail
    go_region_held3 (fun W => W.cell? ⟨n, 0, none⟩ = some (u64 uc) ∧ W.cell? ⟨n, 1, none⟩ = some (u64 uk) ∧ W.cell? ⟨n, 2, none⟩ = some (u64 ulc) ∧ W.cell? ⟨n, 3, none⟩ = some (u64 ulk) ∧ W.cell? ⟨n, 4, none⟩ = some (u64 urc) ∧ W.cell? ⟨n, 5, none⟩ = some (u64 urk)) (first | assumption)
      (first
        | (go_at_call 36; (with_reducible refine (HF.out _ (Touch.refl _ E).drew).mono ?_); rintro e w1 ⟨rfl, t1⟩; have HT1 : Hid (Touch (fun _ => False) E w1) := (Touch.refl _ E).drew.trans t1; have S1 := HC.out w1 HT1.out; clear t1)
        | (go_at_call 94; (with_reducible refine (HR.out _ HT1.out).mono ?_); rintro e w2 ⟨rfl, t2⟩; have HT2 : Hid (Touch (fun _ => False) E w2) := HT1.out.trans t2; have S2 := HC.out w2 HT2.out; clear t2))
    all_goals (try go_wp2_with fail)
    all_goals go_meet
    all_goals (case rel => exact ⟨rfl, rfl, HT2.out⟩)
  case rest =>
    obtain ⟨rfl, rfl, HT⟩ := hcut
    obtain ⟨wf, hwf⟩ : ∃ we, we = wc := ⟨_, rfl⟩
    subst hwf
    obtain ⟨-, -, k2, k3, -, -⟩ := HC.out _ HT.out
    clear S0 HF HR
    have HT' : Hid (Touch (fun _ => False) w wf) := HTE.out.trans HT.out
    by_cases h1 : fd + 1 = 0
    · have e1 : (fd + 1 == 0) = true := by simp [h1]
      by_cases h2 : ulc = 0
      · have e2 : (ulc == 0) = true := by simp [h2]
        by_cases h3 : ulk = 0
        · have e3 : (ulk == 0) = true := by simp [h3]
          by_cases h4 : rt < fd + 1
          · have HX : Hid (res = (0, 0, false)) := by rw [hres.out]; exact if_pos (.inr h4)
            clear h1 h2 h3
            go_wp2_with fail
            refine bodyPost_ret (v := .tuple #[iV 0, iV 0, .bool false]) (by simp [results, Tryz.results55, go_sem]) rfl ?_
            exact ⟨by rw [HX.out], HT'.out⟩
          · have HX : Hid (res = (fd + 1, rt, true)) := by rw [hres.out]; exact if_neg (fun h => h.elim (fun h => h.2 ⟨h2, h3⟩) h4)
            clear h1 h2 h3
            go_wp2_with fail
            refine bodyPost_ret (v := .tuple #[iV (fd + 1), iV rt, .bool true]) (by simp [results, Tryz.results55, go_sem]) rfl ?_
            exact ⟨by rw [HX.out], HT'.out⟩
        · have e3 : (ulk == 0) = false := by simp [h3]
          have HX : Hid (res = (0, 0, false)) := by rw [hres.out]; exact if_pos (.inl ⟨h1, fun h => h3 h.2⟩)
          clear h1 h2 h3
          go_wp2_with fail
          refine bodyPost_ret (v := .tuple #[iV 0, iV 0, .bool false]) (by simp [results, Tryz.results55, go_sem]) rfl ?_
          exact ⟨by rw [HX.out], HT'.out⟩
      · have e2 : (ulc == 0) = false := by simp [h2]
        have HX : Hid (res = (0, 0, false)) := by rw [hres.out]; exact if_pos (.inl ⟨h1, fun h => h2 h.1⟩)
        clear h1 h2
        go_wp2_with fail
        refine bodyPost_ret (v := .tuple #[iV 0, iV 0, .bool false]) (by simp [results, Tryz.results55, go_sem]) rfl ?_
        exact ⟨by rw [HX.out], HT'.out⟩
    · have e1 : (fd + 1 == 0) = false := by simp [h1]
      by_cases h4 : rt < fd + 1
      · have HX : Hid (res = (0, 0, false)) := by rw [hres.out]; exact if_pos (.inr h4)
        clear h1
        go_wp2_with fail
        refine bodyPost_ret (v := .tuple #[iV 0, iV 0, .bool false]) (by simp [results, Tryz.results55, go_sem]) rfl ?_
        exact ⟨by rw [HX.out], HT'.out⟩
      · have HX : Hid (res = (fd + 1, rt, true)) := by rw [hres.out]; exact if_neg (fun h => h.elim (fun h => h1 h.1) h4)
        clear h1
        go_wp2_with fail
        refine bodyPost_ret (v := .tuple #[iV (fd + 1), iV rt, .bool true]) (by simp [results, Tryz.results55, go_sem]) rfl ?_
        exact ⟨by rw [HX.out], HT'.out⟩
end Go.Proofs.YtdnhoicfolkbnaaGreat

/- The library's search by halves, at the question of placeOf. -/
namespace Go.Proofs.YtdnhoicfolkbnaaGreat
open Go.RowKit
set_option linter.unusedVariables false
set_option linter.unusedSimpArgs false
set_option maxRecDepth 100000

theorem bis_succ (p : Nat → Bool) (f i j : Nat) : bis p (f + 1) i j = if i < j then (if p ((i + j) / 2) then bis p f i ((i + j) / 2) else bis p f ((i + j) / 2 + 1) j) else i := rfl
theorem bis_fuel {p : Nat → Bool} : ∀ (f g i j : Nat), j - i ≤ f → j - i ≤ g → bis p f i j = bis p g i j
  | 0, 0, i, j, _, _ => rfl
  | 0, g + 1, i, j, h, _ => by rw [bis_succ, if_neg (by omega)]; rfl
  | f + 1, 0, i, j, _, h => by rw [bis_succ, if_neg (by omega)]; rfl
  | f + 1, g + 1, i, j, h1, h2 => by
    rw [bis_succ, bis_succ]
    by_cases h : i < j
    · rw [if_pos h, if_pos h]
      cases p ((i + j) / 2) with
      | true => rw [if_pos rfl, if_pos rfl]; exact bis_fuel f g _ _ (by omega) (by omega)
      | false => rw [if_neg (by simp), if_neg (by simp)]; exact bis_fuel f g _ _ (by omega) (by omega)
    · rw [if_neg h, if_neg h]
theorem bis_le {p : Nat → Bool} : ∀ (f i j : Nat), i ≤ j → i ≤ bis p f i j ∧ bis p f i j ≤ j
  | 0, i, j, h => ⟨Nat.le_refl _, h⟩
  | f + 1, i, j, h => by
    rw [bis_succ]
    by_cases hl : i < j
    · rw [if_pos hl]
      cases p ((i + j) / 2) with
      | true => rw [if_pos rfl]; have := bis_le (p := p) f i ((i + j) / 2) (by omega); omega
      | false => rw [if_neg (by simp)]; have := bis_le (p := p) f ((i + j) / 2 + 1) j (by omega); omega
    · rw [if_neg hl]; omega
set_option maxHeartbeats 8000000 in
theorem search_any {w : World} (n : Nat) (hn : n ≤ 1152921504606846976) (p : Nat → Bool) (c1 c2 c3 c4 c5 : Value)
    (HP : ∀ (W : World) (i : Nat), Touch (fun _ => False) w W → i < n → Calls Tryz.prog 103 #[iV (i : Int), c1, c2, c3, c4, c5] W fun e w' => e = .returned (.bool (p i)) ∧ Touch (fun _ => False) W w') :
    Calls Tryz.prog 102 #[iV (n : Int), .func (.func 103) #[] #[c1, c2, c3, c4, c5]] w fun e w' => e = .returned (iV (bis p n 0 n : Int)) ∧ Touch (fun _ => False) w w' := by
  have HPx : Hid (∀ (W : World) (i : Nat), Touch (fun _ => False) w W → i < n → Calls Tryz.prog 103 #[iV (i : Int), c1, c2, c3, c4, c5] W fun e w' => e = .returned (.bool (p i)) ∧ Touch (fun _ => False) W w') := HP
  obtain ⟨res, hres⟩ : ∃ r, Hid (r = bis p n 0 n) := ⟨_, Eq.refl _⟩
  rw [← hres.out]
  clear HP
  go_enter Tryz.func102, Tryz.ntmps102
  go_wp2_with fail
  go_loopg [5, 6] n (fun gk s5 s6 wx => ∃ i j : Nat, s5 = iV (i : Int) ∧ s6 = iV (j : Int) ∧ i ≤ j ∧ j ≤ n ∧ Hid (j - i = gk) ∧ Hid (Touch (fun _ => False) w wx ∧ res = bis p gk i j))
  case atStart => exact ⟨0, n, rfl, rfl, Nat.zero_le _, Nat.le_refl _, Nat.sub_zero _, Touch.refl _ _, hres.out⟩
  case round =>
    obtain ⟨i, j, rfl, rfl, hij, hjn, hgk, HI⟩ := hrel
    obtain ⟨W0, hW0⟩ : ∃ X, X = wr := ⟨_, rfl⟩
    subst hW0
    by_cases hlt : i < j
    · obtain ⟨h, hh⟩ : ∃ h, Hid (h = (i + j) / 2) := ⟨_, Eq.refl _⟩
      have hb : i ≤ h ∧ h < j := by rw [hh.out]; omega
      have eh : ((i : Int) + (j : Int)) / 2 = (h : Int) := by rw [hh.out]; omega
      have HC : Hid (Calls Tryz.prog 103 #[iV (h : Int), c1, c2, c3, c4, c5] W0 fun e w' => e = .returned (.bool (p h)) ∧ Touch (fun _ => False) W0 w') := HPx.out W0 h HI.out.1 (by omega)
      obtain ⟨g', hg⟩ : ∃ g', gk = g' + 1 := ⟨gk - 1, by have := hgk.out; omega⟩
      have HR : Hid (res = if p h then bis p g' i h else bis p g' (h + 1) j) := by
        have := HI.out.2
        rw [hg, bis_succ, if_pos hlt, ← hh.out] at this
        exact this
      have HG : Hid (j - i = g' + 1) := by rw [← hg]; exact hgk.out
      have l1 : (i : Int) < (j : Int) := by omega
      have hjI : (j : Int) ≤ 1152921504606846976 := by omega
      clear hgk hh
      go_wp2_with fail
      refine HC.out.mono ?_
      rintro e W1 ⟨rfl, t1⟩
      have HT1 : Hid (Touch (fun _ => False) w W1) := HI.out.1.trans t1
      clear t1 HC HI
      generalize p h = ph at *
      cases ph
      · go_wp2_with fail
        go_roundg (j - (h + 1))
        case measure => have := HG.out; omega
        case rel => exact ⟨h + 1, j, by go_num, rfl, by omega, hjn, rfl, HT1.out, by have := HG.out; rw [HR.out]; exact bis_fuel _ _ _ _ (by omega) (by omega)⟩
      · go_wp2_with fail
        go_roundg (h - i)
        case measure => have := HG.out; omega
        case rel => exact ⟨i, h, rfl, rfl, by omega, by omega, rfl, HT1.out, by have := HG.out; rw [HR.out]; exact bis_fuel _ _ _ _ (by omega) (by omega)⟩
    · have HX : Hid (res = i) := by
        rw [HI.out.2]
        cases gk with
        | zero => rfl
        | succ g' => rw [bis_succ]; exact if_neg hlt
      have l1 : ¬ (i : Int) < (j : Int) := by omega
      go_wp2_with fail
      go_ret
      exact ⟨congrArg (fun x : Nat => Ending.returned (iV (x : Int))) HX.out.symm, HI.out.1⟩
end Go.Proofs.YtdnhoicfolkbnaaGreat

/- What is so of a sequence (no Go in it): spots that childOver, spotOf tell; places. -/
namespace Go.Proofs.YtdnhoicfolkbnaaGreat
set_option linter.unusedVariables false
set_option linter.unusedSimpArgs false

theorem rn_out {R : List Rn} {r : Nat} (h : R.length ≤ r) : rn R r = .zero := by unfold rn; rw [List.getElem?_eq_none h]; rfl
theorem Inv.down {S : SS} (h : Inv S) : Down S.runs := by
  refine ⟨h.root, fun r => ?_, fun r h0 hr => ⟨(h.runs r h0 hr).1, (h.runs r h0 hr).2.1⟩⟩
  by_cases h0 : r = 0
  · rw [h0, h.root]; exact Int.le_refl _
  · by_cases hr : r < S.runs.length
    · have := (h.runs r (by omega) hr).2.2.2.2.2.2.1
      omega
    · rw [rn_out (by omega)]; exact Int.le_refl _
theorem fin_ok {R : List Rn} (hR : 0 < R.length) (p x : Sp) : ((fin p x).1.run < R.length ∧ (fin p x).1.pos = 0) ∨ (fin p x).1 = ⟨p.run, p.pos + 1⟩ := by
  unfold fin
  split
  · exact .inl ⟨hR, rfl⟩
  · exact .inr rfl
theorem climb_ok {R : List Rn} (hD : Down R) {p : Sp} : ∀ (f : Nat) (x : Sp), x.run < R.length → (((climb R p f x).1.run < R.length ∧ (climb R p f x).1.pos = 0) ∨ (climb R p f x).1 = ⟨p.run, p.pos + 1⟩)
  | 0, x, hx => fin_ok (by omega) p x
  | f + 1, x, hx => by
    obtain ⟨s1, s2, s3, s4⟩ := hD.step hx (hD.2.1 p.run)
    rw [climb_succ]
    split
    · exact fin_ok (by omega) p x
    · split
      · exact climb_ok hD f _ s3
      · split
        · exact climb_ok hD f _ s4
        · split
          · exact .inl ⟨hx, rfl⟩
          · exact fin_ok (by omega) p _
/-- A spot that a parent may be. -/
def SpP (S : SS) (x : Sp) : Prop := x.run < S.runs.length ∧ 0 ≤ x.pos ∧ (rn S.runs x.run).first.k + x.pos ≤ 9007199254740992
theorem Inv.spPk {S : SS} (h : Inv S) {x : Sp} (hx : SpP S x) : SpOk S x := by
  have := (h.fst x.run).k
  exact ⟨hx.1, hx.2.1, this.1, by have := hx.2.2; omega⟩
theorem Inv.childOk {S : SS} (h : Inv S) {p x : Sp} (hp : SpP S p) (hx : x.run < S.runs.length) : SpOk S (childR S.runs p x).1 := by
  rcases climb_ok h.down (p := p) (x.run + 1) x hx with ⟨a, b⟩ | e
  · have hk := (h.fst (childR S.runs p x).1.run).k
    have hk2 : (rn S.runs (childR S.runs p x).1.run).first.k ≤ 9007199254740991 := by
      by_cases h0 : (childR S.runs p x).1.run = 0
      · rw [h0, h.root]; decide
      · exact (h.runs _ (Nat.pos_of_ne_zero h0) a).2.2.2.2.2.2.2.2.2.2.2
    have b' : (childR S.runs p x).1.pos = 0 := b
    exact ⟨a, by omega, hk.1, by omega⟩
  · have e' : (childR S.runs p x).1 = ⟨p.run, p.pos + 1⟩ := e
    have hk := (h.fst p.run).k
    obtain ⟨a, b, c⟩ := hp
    rw [e']
    exact ⟨a, by show 0 ≤ p.pos + 1; omega, hk.1, by show (rn S.runs p.run).first.k + (p.pos + 1) ≤ _; omega⟩
theorem Inv.unitOk {S : SS} (h : Inv S) {x : Sp} (hx : SpOk S x) : (S.unit x).ok := by
  obtain ⟨a, b, c, d⟩ := hx
  have f := h.fst x.run
  unfold SS.unit unitR
  split
  · exact f
  · next hp =>
    have := f.k
    exact ⟨f.c, ⟨by show 0 ≤ _ + _; omega, by show _ + _ < (_ : Int); omega⟩, f.c, ⟨by show 0 ≤ _ + _ - 1; omega, by show _ + _ - 1 < (_ : Int); omega⟩, f.rc, f.rk⟩
theorem Inv.first_nn {S : SS} (h : Inv S) (i : Nat) : 0 ≤ (S.first i).c := by
  unfold SS.first SS.unit
  rw [unitR_c]
  exact (h.fst _).c
/-- A unit that is there, or none: where it is. -/
theorem Inv.there {S : SS} (h : Inv S) {c k : Int} (hc : 0 ≤ c) (hk : 0 ≤ k) (hf : S.find c k ≠ -1 ∨ (c = 0 ∧ k = 0)) : (S.first (S.piece c k)).c = c ∧ (S.first (S.piece c k)).k ≤ k ∧ k ≤ 9007199254740992 := by
  have h1 := h.piece_le c k hc hk
  have h2 := h.firstOk (h.piece_lt c k)
  have h3 := h.first_nn (S.piece c k)
  rcases hf with hf | ⟨e1, e2⟩
  · unfold SS.find at hf
    split at hf
    · exact absurd rfl hf
    · next hn =>
      have a : (S.first (S.piece c k)).c = c := Decidable.byContradiction fun e => hn (.inl e)
      have b : ¬ S.len (S.piece c k) ≤ k - (S.first (S.piece c k)).k := fun e => hn (.inr e)
      exact ⟨a, by omega, by omega⟩
  · exact ⟨by omega, by omega, by omega⟩
theorem Inv.spotOfP {S : SS} (h : Inv S) {c k : Int} (hle : (S.first (S.piece c k)).k ≤ k) (hk : k ≤ 9007199254740992) : SpP S (S.spotOf c k) := by
  obtain ⟨a, b, d, e, f⟩ := h.pcOk (h.piece_lt c k)
  have hkx : (S.first (S.piece c k)).k = (rn S.runs (S.pc (S.piece c k)).run).first.k + (S.pc (S.piece c k)).pos := unitR_k _ _
  unfold SS.spotOf
  exact ⟨a, by show 0 ≤ _ + (k - _); omega, by show (rn S.runs (S.pc (S.piece c k)).run).first.k + (_ + (k - _)) ≤ _; omega⟩
/-- What between says of origins. -/
theorem Inv.betw {S : SS} (h : Inv S) {u : Un} (hu : u.ok) (hb : (S.between u).2.2 = true) :
    (S.find u.lc u.lk ≠ -1 ∨ (u.lc = 0 ∧ u.lk = 0)) ∧ (S.find u.rc u.rk ≠ -1 ∨ (u.rc = 0 ∧ u.rk = 0)) ∧ (S.between u).1 = S.find u.lc u.lk + 1 ∧ (S.between u).2.1 = S.rightOf u ∧ S.find u.lc u.lk + 1 ≤ S.rightOf u ∧ 0 ≤ S.find u.lc u.lk + 1 := by
  have h1 := h.find_bd u.lc u.lk hu.lk.1 hu.lc
  unfold SS.between at hb ⊢
  split at hb
  · exact absurd hb (by simp)
  · next hn =>
    rw [if_neg hn]
    have a : ¬ (S.find u.lc u.lk + 1 = 0 ∧ ¬ (u.lc = 0 ∧ u.lk = 0)) := fun e => hn (.inl e)
    have b : ¬ S.rightOf u < S.find u.lc u.lk + 1 := fun e => hn (.inr e)
    refine ⟨?_, ?_, rfl, rfl, by omega, by omega⟩
    · by_cases hz : u.lc = 0 ∧ u.lk = 0
      · exact .inr hz
      · exact .inl fun e => a ⟨by omega, hz⟩
    · by_cases hz : u.rc = 0 ∧ u.rk = 0
      · exact .inr hz
      · refine .inl fun e => ?_
        unfold SS.rightOf at b
        rw [if_neg hz, e] at b
        omega
/-- A place that is found is one. -/
theorem Inv.find_le {S : SS} (h : Inv S) (c k : Int) (hc : 0 ≤ c) (hk : 0 ≤ k) : S.find c k < S.total ∨ S.find c k = -1 := by
  have h1 := h.piece_le c k hc hk
  unfold SS.find
  split
  · exact .inr rfl
  · next hn =>
    left
    have b : ¬ S.len (S.piece c k) ≤ k - (S.first (S.piece c k)).k := fun e => hn (.inr e)
    have a : (S.first (S.piece c k)).c = c := Decidable.byContradiction fun e => hn (.inl e)
    have hz : S.piece c k ≠ 0 := fun e => by rw [e, h.ordF.zero] at b; rw [e] at h1 a; omega
    have hm : S.piece c k ∈ S.ord := (h.ordF.lab _).2 ⟨by omega, h.piece_lt c k⟩
    obtain ⟨A, B, hAB⟩ := List.append_of_mem hm
    have hnA : S.piece c k ∉ A := fun hx => by
      have hn := h.ordF.nod
      rw [hAB] at hn
      exact (List.nodup_append.1 hn).2.2 _ hx _ (by simp) rfl
    have s1 := sumF_nn h.ordF.long B
    unfold SS.total
    rw [hAB, aheadF_of hnA, sumF_append, sumF_cons]
    omega
theorem Inv.rightOf_le {S : SS} (h : Inv S) {u : Un} (hu : u.ok) : S.rightOf u ≤ S.total := by
  have := h.total_nn
  unfold SS.rightOf
  split
  · exact Int.le_refl _
  · rcases h.find_le u.rc u.rk hu.rc hu.rk.1 with h' | h' <;> omega
end Go.Proofs.YtdnhoicfolkbnaaGreat

/- What is so of a sequence behind a cut, a piece more, a run more (no Go in it). -/
namespace Go.Proofs.YtdnhoicfolkbnaaGreat
set_option linter.unusedVariables false
set_option linter.unusedSimpArgs false

theorem insB_perm {i n : Nat} : ∀ {l : List Nat}, (i = 0 ∨ i ∈ l) → (insB i n l).Perm (n :: l)
  | [], h => by
    rcases h with rfl | h
    · exact List.Perm.refl _
    · cases h
  | x :: l, h => by
    show List.Perm (if i = 0 then n :: x :: l else if x = i then x :: n :: l else x :: insB i n l) (n :: x :: l)
    by_cases h0 : i = 0
    · rw [if_pos h0]
    · rw [if_neg h0]
      by_cases hx : x = i
      · rw [if_pos hx]; exact List.Perm.swap _ _ _
      · rw [if_neg hx]
        have hm : i ∈ l := by
          rcases h with h | h
          · exact absurd h h0
          · rcases List.mem_cons.1 h with h | h
            · exact absurd h.symm hx
            · exact h
        exact (List.Perm.cons x (insB_perm (.inr hm))).trans (List.Perm.swap _ _ _)
theorem sumF_perm {len : Nat → Int} {a b : List Nat} (h : a.Perm b) : sumF len a = sumF len b := by
  induction h with
  | nil => rfl
  | cons x _ ih => rw [sumF_cons, sumF_cons, ih]
  | swap x y l => rw [sumF_cons, sumF_cons, sumF_cons, sumF_cons]; omega
  | trans _ _ ih1 ih2 => rw [ih1, ih2]
theorem sumF_congr {f g : Nat → Int} {l : List Nat} (h : ∀ x ∈ l, f x = g x) : sumF f l = sumF g l := by
  unfold sumF
  rw [List.map_congr_left h]
/-- A row with one thing more. -/
theorem RowF.add {n : Nat} {F : List Nat} {len : Nat → Int} (h : RowF n F len) {i : Nat} (hi : i < n) {lg : Int} (hl : 0 ≤ lg) : RowF (n + 1) (insB i n F) (fun x => len x + (if x = n then lg else 0)) := by
  have hm : i = 0 ∨ i ∈ F := by
    by_cases h0 : i = 0
    · exact .inl h0
    · exact .inr ((h.lab i).2 ⟨by omega, hi⟩)
  have hp := insB_perm (n := n) hm
  have hn := h.n0
  refine ⟨by omega, hp.nodup_iff.2 (List.nodup_cons.2 ⟨fun hx => by have := (h.lab n).1 hx; omega, h.nod⟩), fun x => ?_, fun x => ?_, ?_, fun x hx => ?_⟩
  · rw [hp.mem_iff, List.mem_cons, h.lab]
    constructor
    · rintro (rfl | ⟨a, b⟩)
      · exact ⟨by omega, by omega⟩
      · exact ⟨a, by omega⟩
    · rintro ⟨a, b⟩
      by_cases e : x = n
      · exact .inl e
      · exact .inr ⟨a, by omega⟩
  · have := h.long x
    show 0 ≤ len x + _
    split <;> omega
  · show len 0 + _ = 0
    rw [h.zero, if_neg (by omega)]; rfl
  · show len x + _ = 0
    rw [h.out x (by omega), if_neg (by omega)]; rfl
theorem RowF.grow {n : Nat} {F : List Nat} {len : Nat → Int} (h : RowF n F len) {i : Nat} (hi : i < n) (h0 : i ≠ 0) {m : Int} (hm : 0 ≤ len i + m) : RowF n F (fun x => len x + (if x = i then m else 0)) := by
  refine ⟨h.n0, h.nod, h.lab, fun x => ?_, ?_, fun x hx => ?_⟩
  · show 0 ≤ len x + _
    by_cases e : x = i
    · rw [if_pos e, e]; exact hm
    · rw [if_neg e]; have := h.long x; omega
  · show len 0 + _ = 0
    rw [h.zero, if_neg (by omega)]; rfl
  · show len x + _ = 0
    rw [h.out x hx, if_neg (by omega)]; rfl
theorem sum_add {n : Nat} {F : List Nat} {len : Nat → Int} (h : RowF n F len) {i : Nat} (hi : i < n) (lg : Int) : sumF (fun x => len x + (if x = n then lg else 0)) (insB i n F) = sumF len F + lg := by
  have hm : i = 0 ∨ i ∈ F := by
    by_cases h0 : i = 0
    · exact .inl h0
    · exact .inr ((h.lab i).2 ⟨by omega, hi⟩)
  rw [sumF_perm (insB_perm (n := n) hm), sumF_cons, if_pos rfl, h.out n (Nat.le_refl _)]
  have : sumF (fun x => len x + (if x = n then lg else 0)) F = sumF len F := sumF_congr fun x hx => by
    have := (h.lab x).1 hx
    rw [if_neg (by omega)]; omega
  rw [this]; omega
theorem sum_grow {n : Nat} {F : List Nat} {len : Nat → Int} (h : RowF n F len) {i : Nat} (hi : i < n) (h0 : i ≠ 0) (m : Int) : sumF (fun x => len x + (if x = i then m else 0)) F = sumF len F + m := by
  have hm : i ∈ F := (h.lab i).2 ⟨by omega, hi⟩
  obtain ⟨A, B, e⟩ := List.append_of_mem hm
  have hn := h.nod
  rw [e] at hn
  have hd := List.nodup_append.1 hn
  have hA : i ∉ A := fun hx => hd.2.2 i hx i (by simp) rfl
  have hB : i ∉ B := (List.nodup_cons.1 hd.2.1).1
  rw [e, sumF_append, sumF_append, sumF_cons, sumF_cons, if_pos rfl]
  have e1 : sumF (fun x => len x + (if x = i then m else 0)) A = sumF len A := sumF_congr fun x hx => by rw [if_neg (fun e' => hA (by rw [← e']; exact hx))]; omega
  have e2 : sumF (fun x => len x + (if x = i then m else 0)) B = sumF len B := sumF_congr fun x hx => by rw [if_neg (fun e' => hB (by rw [← e']; exact hx))]; omega
  rw [e1, e2]; omega
/-- Of two pieces: all of the one is ahead of the other, by ids. -/
def BefI (S : SS) (i j : Nat) : Prop := (S.first i).c < (S.first j).c ∨ ((S.first i).c = (S.first j).c ∧ (S.first i).k + S.len i ≤ (S.first j).k)
theorem pc_snoc {S : SS} {x : Sp} {i : Nat} : ({ S with pcs := S.pcs ++ [x] } : SS).pc i = if i < S.pcs.length then S.pc i else if i = S.pcs.length then x else .zero := by
  unfold SS.pc
  by_cases h : i < S.pcs.length
  · rw [if_pos h, List.getElem?_append_left h]
  · rw [if_neg h]
    by_cases e : i = S.pcs.length
    · rw [if_pos e, e, List.getElem?_append_right (Nat.le_refl _), Nat.sub_self]; rfl
    · rw [if_neg e, List.getElem?_eq_none (by simp; omega)]; rfl
/-- A list with one put right behind another stays in order, if that one is behind all ahead, and ahead of all behind. -/
theorem pairwise_ins {R : Nat → Nat → Prop} {i n : Nat} : ∀ {l : List Nat}, l.Nodup → l.Pairwise R → (i = 0 ∨ i ∈ l) → (0 ∉ l) → (∀ x ∈ l, (x = i ∨ (i ≠ 0 ∧ ∃ A B, l = A ++ x :: B ∧ i ∈ B)) → R x n) → (∀ x ∈ l, (i = 0 ∨ ∃ A B, l = A ++ i :: B ∧ x ∈ B) → R n x) → (insB i n l).Pairwise R
  | [], _, _, h, _, _, _ => by
    rcases h with rfl | h
    · exact List.pairwise_singleton _ _
    · cases h
  | y :: l, hnd, hp, h, hz, h1, h2 => by
    have hc := List.pairwise_cons.1 hp
    have hd := List.nodup_cons.1 hnd
    show (if i = 0 then n :: y :: l else if y = i then y :: n :: l else y :: insB i n l).Pairwise R
    by_cases h0 : i = 0
    · rw [if_pos h0]
      exact List.pairwise_cons.2 ⟨fun x hx => h2 x hx (.inl h0), hp⟩
    · rw [if_neg h0]
      by_cases hy : y = i
      · rw [if_pos hy]
        subst hy
        refine List.pairwise_cons.2 ⟨fun x hx => ?_, List.pairwise_cons.2 ⟨fun x hx => h2 x (by simp [hx]) (.inr ⟨[], l, rfl, hx⟩), hc.2⟩⟩
        rcases List.mem_cons.1 hx with rfl | hx
        · exact h1 _ (by simp) (.inl rfl)
        · exact hc.1 x hx
      · rw [if_neg hy]
        have hm : i ∈ l := by
          rcases h with h | h
          · exact absurd h h0
          · rcases List.mem_cons.1 h with h | h
            · exact absurd h.symm hy
            · exact h
        refine List.pairwise_cons.2 ⟨fun x hx => ?_, pairwise_ins hd.2 hc.2 (.inr hm) (fun h' => hz (by simp [h'])) (fun x hx hh => h1 x (by simp [hx]) ?_) (fun x hx hh => h2 x (by simp [hx]) ?_)⟩
        · rcases List.mem_cons.1 ((insB_perm (n := n) (.inr hm)).mem_iff.1 hx) with rfl | hx
          · exact h1 y (by simp) (.inr ⟨h0, [], l, rfl, hm⟩)
          · exact hc.1 x hx
        · rcases hh with hh | ⟨a, A, B, e, hb⟩
          · exact .inl hh
          · exact .inr ⟨a, y :: A, B, by rw [e]; rfl, hb⟩
        · rcases hh with hh | ⟨A, B, e, hb⟩
          · exact .inl hh
          · exact .inr ⟨y :: A, B, by rw [e]; rfl, hb⟩
end Go.Proofs.YtdnhoicfolkbnaaGreat

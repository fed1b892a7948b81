/- The library's search by halves, at the question of placeOf. -/
import Derived.Test.YtdonhdmealhgiabSeqU3
import Derived.Test.YtdonhdmealhgiabSeqV2
import Derived.Test.YtdonhdmealhgiabPart12
namespace Go.Proofs.Ytdonhdmealhgiab
open Go.RowKit
set_option linter.unusedVariables false
set_option linter.unusedSimpArgs false
set_option maxRecDepth 100000

theorem bis_succ (p : Nat → Bool) (f i j : Nat) : bis p (f + 1) i j = if i < j then (if p ((i + j) / 2) then bis p f i ((i + j) / 2) else bis p f ((i + j) / 2 + 1) j) else i := rfl
theorem bis_fuel {p : Nat → Bool} : ∀ (f g i j : Nat), j - i ≤ f → j - i ≤ g → bis p f i j = bis p g i j
  | 0, 0, i, j, _, _ => rfl
  | 0, g + 1, i, j, h, _ => by rw [bis_succ, if_neg (by omega)]; rfl
  | f + 1, 0, i, j, _, h => by rw [bis_succ, if_neg (by omega)]; rfl
  | f + 1, g + 1, i, j, h1, h2 => by
    rw [bis_succ, bis_succ]
    by_cases h : i < j
    · rw [if_pos h, if_pos h]
      cases p ((i + j) / 2) with
      | true => rw [if_pos rfl, if_pos rfl]; exact bis_fuel f g _ _ (by omega) (by omega)
      | false => rw [if_neg (by simp), if_neg (by simp)]; exact bis_fuel f g _ _ (by omega) (by omega)
    · rw [if_neg h, if_neg h]
theorem bis_le {p : Nat → Bool} : ∀ (f i j : Nat), i ≤ j → i ≤ bis p f i j ∧ bis p f i j ≤ j
  | 0, i, j, h => ⟨Nat.le_refl _, h⟩
  | f + 1, i, j, h => by
    rw [bis_succ]
    by_cases hl : i < j
    · rw [if_pos hl]
      cases p ((i + j) / 2) with
      | true => rw [if_pos rfl]; have := bis_le (p := p) f i ((i + j) / 2) (by omega); omega
      | false => rw [if_neg (by simp)]; have := bis_le (p := p) f ((i + j) / 2 + 1) j (by omega); omega
    · rw [if_neg hl]; omega
set_option maxHeartbeats 8000000 in
theorem search_any {w : World} (n : Nat) (hn : n ≤ 1152921504606846976) (p : Nat → Bool) (c1 c2 c3 c4 c5 : Value)
    (HP : ∀ (W : World) (i : Nat), Touch (fun _ => False) w W → i < n → Calls Try.prog 64 #[iV (i : Int), c1, c2, c3, c4, c5] W fun e w' => e = .returned (.bool (p i)) ∧ Touch (fun _ => False) W w') :
    Calls Try.prog 63 #[iV (n : Int), .func (.func 64) #[] #[c1, c2, c3, c4, c5]] w fun e w' => e = .returned (iV (bis p n 0 n : Int)) ∧ Touch (fun _ => False) w w' := by
  have HPx : Hid (∀ (W : World) (i : Nat), Touch (fun _ => False) w W → i < n → Calls Try.prog 64 #[iV (i : Int), c1, c2, c3, c4, c5] W fun e w' => e = .returned (.bool (p i)) ∧ Touch (fun _ => False) W w') := HP
  obtain ⟨res, hres⟩ : ∃ r, Hid (r = bis p n 0 n) := ⟨_, Eq.refl _⟩
  rw [← hres.out]
  clear HP
  go_enter Try.func63, Try.ntmps63
  go_wp2_with fail
  go_loopg [5, 6] n (fun gk s5 s6 wx => ∃ i j : Nat, s5 = iV (i : Int) ∧ s6 = iV (j : Int) ∧ i ≤ j ∧ j ≤ n ∧ Hid (j - i = gk) ∧ Hid (Touch (fun _ => False) w wx ∧ res = bis p gk i j))
  case atStart => exact ⟨0, n, rfl, rfl, Nat.zero_le _, Nat.le_refl _, Nat.sub_zero _, Touch.refl _ _, hres.out⟩
  case round =>
    obtain ⟨i, j, rfl, rfl, hij, hjn, hgk, HI⟩ := hrel
    obtain ⟨W0, hW0⟩ : ∃ X, X = wr := ⟨_, rfl⟩
    subst hW0
    by_cases hlt : i < j
    · obtain ⟨h, hh⟩ : ∃ h, Hid (h = (i + j) / 2) := ⟨_, Eq.refl _⟩
      have hb : i ≤ h ∧ h < j := by rw [hh.out]; omega
      have eh : ((i : Int) + (j : Int)) / 2 = (h : Int) := by rw [hh.out]; omega
      have HC : Hid (Calls Try.prog 64 #[iV (h : Int), c1, c2, c3, c4, c5] W0 fun e w' => e = .returned (.bool (p h)) ∧ Touch (fun _ => False) W0 w') := HPx.out W0 h HI.out.1 (by omega)
      obtain ⟨g', hg⟩ : ∃ g', gk = g' + 1 := ⟨gk - 1, by have := hgk.out; omega⟩
      have HR : Hid (res = if p h then bis p g' i h else bis p g' (h + 1) j) := by
        have := HI.out.2
        rw [hg, bis_succ, if_pos hlt, ← hh.out] at this
        exact this
      have HG : Hid (j - i = g' + 1) := by rw [← hg]; exact hgk.out
      have l1 : (i : Int) < (j : Int) := by omega
      have hjI : (j : Int) ≤ 1152921504606846976 := by omega
      clear hgk hh
      go_wp2_with fail
      refine HC.out.mono ?_
      rintro e W1 ⟨rfl, t1⟩
      have HT1 : Hid (Touch (fun _ => False) w W1) := HI.out.1.trans t1
      clear t1 HC HI
      generalize p h = ph at *
      cases ph
      · go_wp2_with fail
        go_roundg (j - (h + 1))
        case measure => have := HG.out; omega
        case rel => exact ⟨h + 1, j, by go_num, rfl, by omega, hjn, rfl, HT1.out, by have := HG.out; rw [HR.out]; exact bis_fuel _ _ _ _ (by omega) (by omega)⟩
      · go_wp2_with fail
        go_roundg (h - i)
        case measure => have := HG.out; omega
        case rel => exact ⟨i, h, rfl, rfl, by omega, by omega, rfl, HT1.out, by have := HG.out; rw [HR.out]; exact bis_fuel _ _ _ _ (by omega) (by omega)⟩
    · have HX : Hid (res = i) := by
        rw [HI.out.2]
        cases gk with
        | zero => rfl
        | succ g' => rw [bis_succ]; exact if_neg hlt
      have l1 : ¬ (i : Int) < (j : Int) := by omega
      go_wp2_with fail
      go_ret
      exact ⟨congrArg (fun x : Nat => Ending.returned (iV (x : Int))) HX.out.symm, HI.out.1⟩
end Go.Proofs.Ytdonhdmealhgiab

/- What is so of a sequence (no Go in it): spots that childOver, spotOf tell; places. -/
namespace Go.Proofs.Ytdonhdmealhgiab
set_option linter.unusedVariables false
set_option linter.unusedSimpArgs false

theorem rn_out {R : List Rn} {r : Nat} (h : R.length ≤ r) : rn R r = .zero := by unfold rn; rw [List.getElem?_eq_none h]; rfl
theorem Inv.down {S : SS} (h : Inv S) : Down S.runs := by
  refine ⟨h.root, fun r => ?_, fun r h0 hr => ⟨(h.runs r h0 hr).1, (h.runs r h0 hr).2.1⟩⟩
  by_cases h0 : r = 0
  · rw [h0, h.root]; exact Int.le_refl _
  · by_cases hr : r < S.runs.length
    · have := (h.runs r (by omega) hr).2.2.2.2.2.2.1
      omega
    · rw [rn_out (by omega)]; exact Int.le_refl _
theorem fin_ok {R : List Rn} (hR : 0 < R.length) (p x : Sp) : ((fin p x).1.run < R.length ∧ (fin p x).1.pos = 0) ∨ (fin p x).1 = ⟨p.run, p.pos + 1⟩ := by
  unfold fin
  split
  · exact .inl ⟨hR, rfl⟩
  · exact .inr rfl
theorem climb_ok {R : List Rn} (hD : Down R) {p : Sp} : ∀ (f : Nat) (x : Sp), x.run < R.length → (((climb R p f x).1.run < R.length ∧ (climb R p f x).1.pos = 0) ∨ (climb R p f x).1 = ⟨p.run, p.pos + 1⟩)
  | 0, x, hx => fin_ok (by omega) p x
  | f + 1, x, hx => by
    obtain ⟨s1, s2, s3, s4⟩ := hD.step hx (hD.2.1 p.run)
    rw [climb_succ]
    split
    · exact fin_ok (by omega) p x
    · split
      · exact climb_ok hD f _ s3
      · split
        · exact climb_ok hD f _ s4
        · split
          · exact .inl ⟨hx, rfl⟩
          · exact fin_ok (by omega) p _
/-- A spot that a parent may be. -/
def SpP (S : SS) (x : Sp) : Prop := x.run < S.runs.length ∧ 0 ≤ x.pos ∧ (rn S.runs x.run).first.k + x.pos ≤ 9007199254740992
theorem Inv.spPk {S : SS} (h : Inv S) {x : Sp} (hx : SpP S x) : SpOk S x := by
  have := (h.fst x.run).k
  exact ⟨hx.1, hx.2.1, this.1, by have := hx.2.2; omega⟩
theorem Inv.childOk {S : SS} (h : Inv S) {p x : Sp} (hp : SpP S p) (hx : x.run < S.runs.length) : SpOk S (childR S.runs p x).1 := by
  rcases climb_ok h.down (p := p) (x.run + 1) x hx with ⟨a, b⟩ | e
  · have hk := (h.fst (childR S.runs p x).1.run).k
    have hk2 : (rn S.runs (childR S.runs p x).1.run).first.k ≤ 9007199254740991 := by
      by_cases h0 : (childR S.runs p x).1.run = 0
      · rw [h0, h.root]; decide
      · exact (h.runs _ (Nat.pos_of_ne_zero h0) a).2.2.2.2.2.2.2.2.2.2.2
    have b' : (childR S.runs p x).1.pos = 0 := b
    exact ⟨a, by omega, hk.1, by omega⟩
  · have e' : (childR S.runs p x).1 = ⟨p.run, p.pos + 1⟩ := e
    have hk := (h.fst p.run).k
    obtain ⟨a, b, c⟩ := hp
    rw [e']
    exact ⟨a, by show 0 ≤ p.pos + 1; omega, hk.1, by show (rn S.runs p.run).first.k + (p.pos + 1) ≤ _; omega⟩
theorem Inv.unitOk {S : SS} (h : Inv S) {x : Sp} (hx : SpOk S x) : (S.unit x).ok := by
  obtain ⟨a, b, c, d⟩ := hx
  have f := h.fst x.run
  unfold SS.unit unitR
  split
  · exact f
  · next hp =>
    have := f.k
    exact ⟨f.c, ⟨by show 0 ≤ _ + _; omega, by show _ + _ < (_ : Int); omega⟩, f.c, ⟨by show 0 ≤ _ + _ - 1; omega, by show _ + _ - 1 < (_ : Int); omega⟩, f.rc, f.rk⟩
theorem Inv.first_nn {S : SS} (h : Inv S) (i : Nat) : 0 ≤ (S.first i).c := by
  unfold SS.first SS.unit
  rw [unitR_c]
  exact (h.fst _).c
/-- A unit that is there, or none: where it is. -/
theorem Inv.there {S : SS} (h : Inv S) {c k : Int} (hc : 0 ≤ c) (hk : 0 ≤ k) (hf : S.find c k ≠ -1 ∨ (c = 0 ∧ k = 0)) : (S.first (S.piece c k)).c = c ∧ (S.first (S.piece c k)).k ≤ k ∧ k ≤ 9007199254740992 := by
  have h1 := h.piece_le c k hc hk
  have h2 := h.firstOk (h.piece_lt c k)
  have h3 := h.first_nn (S.piece c k)
  rcases hf with hf | ⟨e1, e2⟩
  · unfold SS.find at hf
    split at hf
    · exact absurd rfl hf
    · next hn =>
      have a : (S.first (S.piece c k)).c = c := Decidable.byContradiction fun e => hn (.inl e)
      have b : ¬ S.len (S.piece c k) ≤ k - (S.first (S.piece c k)).k := fun e => hn (.inr e)
      exact ⟨a, by omega, by omega⟩
  · exact ⟨by omega, by omega, by omega⟩
theorem Inv.spotOfP {S : SS} (h : Inv S) {c k : Int} (hle : (S.first (S.piece c k)).k ≤ k) (hk : k ≤ 9007199254740992) : SpP S (S.spotOf c k) := by
  obtain ⟨a, b, d, e, f⟩ := h.pcOk (h.piece_lt c k)
  have hkx : (S.first (S.piece c k)).k = (rn S.runs (S.pc (S.piece c k)).run).first.k + (S.pc (S.piece c k)).pos := unitR_k _ _
  unfold SS.spotOf
  exact ⟨a, by show 0 ≤ _ + (k - _); omega, by show (rn S.runs (S.pc (S.piece c k)).run).first.k + (_ + (k - _)) ≤ _; omega⟩
/-- What between says of origins. -/
theorem Inv.betw {S : SS} (h : Inv S) {u : Un} (hu : u.ok) (hb : (S.between u).2.2 = true) :
    (S.find u.lc u.lk ≠ -1 ∨ (u.lc = 0 ∧ u.lk = 0)) ∧ (S.find u.rc u.rk ≠ -1 ∨ (u.rc = 0 ∧ u.rk = 0)) ∧ (S.between u).1 = S.find u.lc u.lk + 1 ∧ (S.between u).2.1 = S.rightOf u ∧ S.find u.lc u.lk + 1 ≤ S.rightOf u ∧ 0 ≤ S.find u.lc u.lk + 1 := by
  have h1 := h.find_bd u.lc u.lk hu.lk.1 hu.lc
  unfold SS.between at hb ⊢
  split at hb
  · exact absurd hb (by simp)
  · next hn =>
    rw [if_neg hn]
    have a : ¬ (S.find u.lc u.lk + 1 = 0 ∧ ¬ (u.lc = 0 ∧ u.lk = 0)) := fun e => hn (.inl e)
    have b : ¬ S.rightOf u < S.find u.lc u.lk + 1 := fun e => hn (.inr e)
    refine ⟨?_, ?_, rfl, rfl, by omega, by omega⟩
    · by_cases hz : u.lc = 0 ∧ u.lk = 0
      · exact .inr hz
      · exact .inl fun e => a ⟨by omega, hz⟩
    · by_cases hz : u.rc = 0 ∧ u.rk = 0
      · exact .inr hz
      · refine .inl fun e => ?_
        unfold SS.rightOf at b
        rw [if_neg hz, e] at b
        omega
/-- A place that is found is one. -/
theorem Inv.find_le {S : SS} (h : Inv S) (c k : Int) (hc : 0 ≤ c) (hk : 0 ≤ k) : S.find c k < S.total ∨ S.find c k = -1 := by
  have h1 := h.piece_le c k hc hk
  unfold SS.find
  split
  · exact .inr rfl
  · next hn =>
    left
    have b : ¬ S.len (S.piece c k) ≤ k - (S.first (S.piece c k)).k := fun e => hn (.inr e)
    have a : (S.first (S.piece c k)).c = c := Decidable.byContradiction fun e => hn (.inl e)
    have hz : S.piece c k ≠ 0 := fun e => by rw [e, h.ordF.zero] at b; rw [e] at h1 a; omega
    have hm : S.piece c k ∈ S.ord := (h.ordF.lab _).2 ⟨by omega, h.piece_lt c k⟩
    obtain ⟨A, B, hAB⟩ := List.append_of_mem hm
    have hnA : S.piece c k ∉ A := fun hx => by
      have hn := h.ordF.nod
      rw [hAB] at hn
      exact (List.nodup_append.1 hn).2.2 _ hx _ (by simp) rfl
    have s1 := sumF_nn h.ordF.long B
    unfold SS.total
    rw [hAB, aheadF_of hnA, sumF_append, sumF_cons]
    omega
theorem Inv.rightOf_le {S : SS} (h : Inv S) {u : Un} (hu : u.ok) : S.rightOf u ≤ S.total := by
  have := h.total_nn
  unfold SS.rightOf
  split
  · exact Int.le_refl _
  · rcases h.find_le u.rc u.rk hu.rc hu.rk.1 with h' | h' <;> omega
end Go.Proofs.Ytdonhdmealhgiab

/- The library's search by halves, at the question of placeOf. -/
import Derived.Test.YtnilikomoapcaaaGreatPart9
import Derived.Test.YtnilikomoapcaaaGreatSeqV2
import Derived.Test.YtnilikomoapcaaaGreatPart10
namespace Go.Proofs.YtnilikomoapcaaaGreat
open Go.RowKit
set_option linter.unusedVariables false
set_option linter.unusedSimpArgs false
set_option maxRecDepth 100000

theorem bis_succ (p : Nat → Bool) (f i j : Nat) : bis p (f + 1) i j = if i < j then (if p ((i + j) / 2) then bis p f i ((i + j) / 2) else bis p f ((i + j) / 2 + 1) j) else i := rfl
theorem bis_fuel {p : Nat → Bool} : ∀ (f g i j : Nat), j - i ≤ f → j - i ≤ g → bis p f i j = bis p g i j
  | 0, 0, i, j, _, _ => rfl
  | 0, g + 1, i, j, h, _ => by rw [bis_succ, if_neg (by omega)]; rfl
  | f + 1, 0, i, j, _, h => by rw [bis_succ, if_neg (by omega)]; rfl
  | f + 1, g + 1, i, j, h1, h2 => by
    rw [bis_succ, bis_succ]
    by_cases h : i < j
    · rw [if_pos h, if_pos h]
      cases p ((i + j) / 2) with
      | true => rw [if_pos rfl, if_pos rfl]; exact bis_fuel f g _ _ (by omega) (by omega)
      | false => rw [if_neg (by simp), if_neg (by simp)]; exact bis_fuel f g _ _ (by omega) (by omega)
    · rw [if_neg h, if_neg h]
theorem bis_le {p : Nat → Bool} : ∀ (f i j : Nat), i ≤ j → i ≤ bis p f i j ∧ bis p f i j ≤ j
  | 0, i, j, h => ⟨Nat.le_refl _, h⟩
  | f + 1, i, j, h => by
    rw [bis_succ]
    by_cases hl : i < j
    · rw [if_pos hl]
      cases p ((i + j) / 2) with
      | true => rw [if_pos rfl]; have := bis_le (p := p) f i ((i + j) / 2) (by omega); omega
      | false => rw [if_neg (by simp)]; have := bis_le (p := p) f ((i + j) / 2 + 1) j (by omega); omega
    · rw [if_neg hl]; omega
set_option maxHeartbeats 8000000 in
theorem search_any {w : World} (n : Nat) (hn : n ≤ 1152921504606846976) (p : Nat → Bool) (c1 c2 c3 c4 c5 : Value)
    (HP : ∀ (W : World) (i : Nat), Touch (fun _ => False) w W → i < n → Calls Tryz.prog 57 #[iV (i : Int), c1, c2, c3, c4, c5] W fun e w' => e = .returned (.bool (p i)) ∧ Touch (fun _ => False) W w') :
    Calls Tryz.prog 56 #[iV (n : Int), .func (.func 57) #[] #[c1, c2, c3, c4, c5]] w fun e w' => e = .returned (iV (bis p n 0 n : Int)) ∧ Touch (fun _ => False) w w' := by
  have HPx : Hid (∀ (W : World) (i : Nat), Touch (fun _ => False) w W → i < n → Calls Tryz.prog 57 #[iV (i : Int), c1, c2, c3, c4, c5] W fun e w' => e = .returned (.bool (p i)) ∧ Touch (fun _ => False) W w') := HP
  obtain ⟨res, hres⟩ : ∃ r, Hid (r = bis p n 0 n) := ⟨_, Eq.refl _⟩
  rw [← hres.out]
  clear HP
  go_enter Tryz.func56, Tryz.ntmps56
  go_wp2_with fail
  go_loopg [5, 6] n (fun gk s5 s6 wx => ∃ i j : Nat, s5 = iV (i : Int) ∧ s6 = iV (j : Int) ∧ i ≤ j ∧ j ≤ n ∧ Hid (j - i = gk) ∧ Hid (Touch (fun _ => False) w wx ∧ res = bis p gk i j))
  case atStart => exact ⟨0, n, rfl, rfl, Nat.zero_le _, Nat.le_refl _, Nat.sub_zero _, Touch.refl _ _, hres.out⟩
  case round =>
    obtain ⟨i, j, rfl, rfl, hij, hjn, hgk, HI⟩ := hrel
    obtain ⟨W0, hW0⟩ : ∃ X, X = wr := ⟨_, rfl⟩
    subst hW0
    by_cases hlt : i < j
    · obtain ⟨h, hh⟩ : ∃ h, Hid (h = (i + j) / 2) := ⟨_, Eq.refl _⟩
      have hb : i ≤ h ∧ h < j := by rw [hh.out]; omega
      have eh : ((i : Int) + (j : Int)) / 2 = (h : Int) := by rw [hh.out]; omega
      have HC : Hid (Calls Tryz.prog 57 #[iV (h : Int), c1, c2, c3, c4, c5] W0 fun e w' => e = .returned (.bool (p h)) ∧ Touch (fun _ => False) W0 w') := HPx.out W0 h HI.out.1 (by omega)
      obtain ⟨g', hg⟩ : ∃ g', gk = g' + 1 := ⟨gk - 1, by have := hgk.out; omega⟩
      have HR : Hid (res = if p h then bis p g' i h else bis p g' (h + 1) j) := by
        have := HI.out.2
        rw [hg, bis_succ, if_pos hlt, ← hh.out] at this
        exact this
      have HG : Hid (j - i = g' + 1) := by rw [← hg]; exact hgk.out
      have l1 : (i : Int) < (j : Int) := by omega
      have hjI : (j : Int) ≤ 1152921504606846976 := by omega
      clear hgk hh
      go_wp2_with fail
      refine HC.out.mono ?_
      rintro e W1 ⟨rfl, t1⟩
      have HT1 : Hid (Touch (fun _ => False) w W1) := HI.out.1.trans t1
      clear t1 HC HI
      generalize p h = ph at *
      cases ph
      · go_wp2_with fail
        go_roundg (j - (h + 1))
        case measure => have := HG.out; omega
        case rel => exact ⟨h + 1, j, by go_num, rfl, by omega, hjn, rfl, HT1.out, by have := HG.out; rw [HR.out]; exact bis_fuel _ _ _ _ (by omega) (by omega)⟩
      · go_wp2_with fail
        go_roundg (h - i)
        case measure => have := HG.out; omega
        case rel => exact ⟨i, h, rfl, rfl, by omega, by omega, rfl, HT1.out, by have := HG.out; rw [HR.out]; exact bis_fuel _ _ _ _ (by omega) (by omega)⟩
    · have HX : Hid (res = i) := by
        rw [HI.out.2]
        cases gk with
        | zero => rfl
        | succ g' => rw [bis_succ]; exact if_neg hlt
      have l1 : ¬ (i : Int) < (j : Int) := by omega
      go_wp2_with fail
      go_ret
      exact ⟨congrArg (fun x : Nat => Ending.returned (iV (x : Int))) HX.out.symm, HI.out.1⟩
end Go.Proofs.YtnilikomoapcaaaGreat

/- What is so of a sequence (no Go in it): spots that childOver, spotOf tell; places. -/
namespace Go.Proofs.YtnilikomoapcaaaGreat
set_option linter.unusedVariables false
set_option linter.unusedSimpArgs false

theorem rn_out {R : List Rn} {r : Nat} (h : R.length ≤ r) : rn R r = .zero := by unfold rn; rw [List.getElem?_eq_none h]; rfl
theorem Inv.down {S : SS} (h : Inv S) : Down S.runs := by
  refine ⟨h.root, fun r => ?_, fun r h0 hr => ⟨(h.runs r h0 hr).1, (h.runs r h0 hr).2.1⟩⟩
  by_cases h0 : r = 0
  · rw [h0, h.root]; exact Int.le_refl _
  · by_cases hr : r < S.runs.length
    · have := (h.runs r (by omega) hr).2.2.2.2.2.2.1
      omega
    · rw [rn_out (by omega)]; exact Int.le_refl _
theorem fin_ok {R : List Rn} (hR : 0 < R.length) (p x : Sp) : ((fin p x).1.run < R.length ∧ (fin p x).1.pos = 0) ∨ (fin p x).1 = ⟨p.run, p.pos + 1⟩ := by
  unfold fin
  split
  · exact .inl ⟨hR, rfl⟩
  · exact .inr rfl
theorem climb_ok {R : List Rn} (hD : Down R) {p : Sp} : ∀ (f : Nat) (x : Sp), x.run < R.length → (((climb R p f x).1.run < R.length ∧ (climb R p f x).1.pos = 0) ∨ (climb R p f x).1 = ⟨p.run, p.pos + 1⟩)
  | 0, x, hx => fin_ok (by omega) p x
  | f + 1, x, hx => by
    obtain ⟨s1, s2, s3, s4⟩ := hD.step hx (hD.2.1 p.run)
    rw [climb_succ]
    split
    · exact fin_ok (by omega) p x
    · split
      · exact climb_ok hD f _ s3
      · split
        · exact climb_ok hD f _ s4
        · split
          · exact .inl ⟨hx, rfl⟩
          · exact fin_ok (by omega) p _
/-- A spot that a parent may be. -/
def SpP (S : SS) (x : Sp) : Prop := x.run < S.runs.length ∧ 0 ≤ x.pos ∧ (rn S.runs x.run).first.k + x.pos ≤ 9007199254740992
theorem Inv.spPk {S : SS} (h : Inv S) {x : Sp} (hx : SpP S x) : SpOk S x := by
  have := (h.fst x.run).k
  exact ⟨hx.1, hx.2.1, this.1, by have := hx.2.2; omega⟩
theorem Inv.childOk {S : SS} (h : Inv S) {p x : Sp} (hp : SpP S p) (hx : x.run < S.runs.length) : SpOk S (childR S.runs p x).1 := by
  rcases climb_ok h.down (p := p) (x.run + 1) x hx with ⟨a, b⟩ | e
  · have hk := (h.fst (childR S.runs p x).1.run).k
    have hk2 : (rn S.runs (childR S.runs p x).1.run).first.k ≤ 9007199254740991 := by
      by_cases h0 : (childR S.runs p x).1.run = 0
      · rw [h0, h.root]; decide
      · exact (h.runs _ (Nat.pos_of_ne_zero h0) a).2.2.2.2.2.2.2.2.2.2.2
    have b' : (childR S.runs p x).1.pos = 0 := b
    exact ⟨a, by omega, hk.1, by omega⟩
  · have e' : (childR S.runs p x).1 = ⟨p.run, p.pos + 1⟩ := e
    have hk := (h.fst p.run).k
    obtain ⟨a, b, c⟩ := hp
    rw [e']
    exact ⟨a, by show 0 ≤ p.pos + 1; omega, hk.1, by show (rn S.runs p.run).first.k + (p.pos + 1) ≤ _; omega⟩
theorem Inv.unitOk {S : SS} (h : Inv S) {x : Sp} (hx : SpOk S x) : (S.unit x).ok := by
  obtain ⟨a, b, c, d⟩ := hx
  have f := h.fst x.run
  unfold SS.unit unitR
  split
  · exact f
  · next hp =>
    have := f.k
    exact ⟨f.c, ⟨by show 0 ≤ _ + _; omega, by show _ + _ < (_ : Int); omega⟩, f.c, ⟨by show 0 ≤ _ + _ - 1; omega, by show _ + _ - 1 < (_ : Int); omega⟩, f.rc, f.rk⟩
theorem Inv.first_nn {S : SS} (h : Inv S) (i : Nat) : 0 ≤ (S.first i).c := by
  unfold SS.first SS.unit
  rw [unitR_c]
  exact (h.fst _).c
/-- A unit that is there, or none: where it is. -/
theorem Inv.there {S : SS} (h : Inv S) {c k : Int} (hc : 0 ≤ c) (hk : 0 ≤ k) (hf : S.find c k ≠ -1 ∨ (c = 0 ∧ k = 0)) : (S.first (S.piece c k)).c = c ∧ (S.first (S.piece c k)).k ≤ k ∧ k ≤ 9007199254740992 := by
  have h1 := h.piece_le c k hc hk
  have h2 := h.firstOk (h.piece_lt c k)
  have h3 := h.first_nn (S.piece c k)
  rcases hf with hf | ⟨e1, e2⟩
  · unfold SS.find at hf
    split at hf
    · exact absurd rfl hf
    · next hn =>
      have a : (S.first (S.piece c k)).c = c := Decidable.byContradiction fun e => hn (.inl e)
      have b : ¬ S.len (S.piece c k) ≤ k - (S.first (S.piece c k)).k := fun e => hn (.inr e)
      exact ⟨a, by omega, by omega⟩
  · exact ⟨by omega, by omega, by omega⟩
theorem Inv.spotOfP {S : SS} (h : Inv S) {c k : Int} (hle : (S.first (S.piece c k)).k ≤ k) (hk : k ≤ 9007199254740992) : SpP S (S.spotOf c k) := by
  obtain ⟨a, b, d, e, f⟩ := h.pcOk (h.piece_lt c k)
  have hkx : (S.first (S.piece c k)).k = (rn S.runs (S.pc (S.piece c k)).run).first.k + (S.pc (S.piece c k)).pos := unitR_k _ _
  unfold SS.spotOf
  exact ⟨a, by show 0 ≤ _ + (k - _); omega, by show (rn S.runs (S.pc (S.piece c k)).run).first.k + (_ + (k - _)) ≤ _; omega⟩
/-- What between says of origins. -/
theorem Inv.betw {S : SS} (h : Inv S) {u : Un} (hu : u.ok) (hb : (S.between u).2.2 = true) :
    (S.find u.lc u.lk ≠ -1 ∨ (u.lc = 0 ∧ u.lk = 0)) ∧ (S.find u.rc u.rk ≠ -1 ∨ (u.rc = 0 ∧ u.rk = 0)) ∧ (S.between u).1 = S.find u.lc u.lk + 1 ∧ (S.between u).2.1 = S.rightOf u ∧ S.find u.lc u.lk + 1 ≤ S.rightOf u ∧ 0 ≤ S.find u.lc u.lk + 1 := by
  have h1 := h.find_bd u.lc u.lk hu.lk.1 hu.lc
  unfold SS.between at hb ⊢
  split at hb
  · exact absurd hb (by simp)
  · next hn =>
    rw [if_neg hn]
    have a : ¬ (S.find u.lc u.lk + 1 = 0 ∧ ¬ (u.lc = 0 ∧ u.lk = 0)) := fun e => hn (.inl e)
    have b : ¬ S.rightOf u < S.find u.lc u.lk + 1 := fun e => hn (.inr e)
    refine ⟨?_, ?_, rfl, rfl, by omega, by omega⟩
    · by_cases hz : u.lc = 0 ∧ u.lk = 0
      · exact .inr hz
      · exact .inl fun e => a ⟨by omega, hz⟩
    · by_cases hz : u.rc = 0 ∧ u.rk = 0
      · exact .inr hz
      · refine .inl fun e => ?_
        unfold SS.rightOf at b
        rw [if_neg hz, e] at b
        omega
/-- A place that is found is one. -/
theorem Inv.find_le {S : SS} (h : Inv S) (c k : Int) (hc : 0 ≤ c) (hk : 0 ≤ k) : S.find c k < S.total ∨ S.find c k = -1 := by
  have h1 := h.piece_le c k hc hk
  unfold SS.find
  split
  · exact .inr rfl
  · next hn =>
    left
    have b : ¬ S.len (S.piece c k) ≤ k - (S.first (S.piece c k)).k := fun e => hn (.inr e)
    have a : (S.first (S.piece c k)).c = c := Decidable.byContradiction fun e => hn (.inl e)
    have hz : S.piece c k ≠ 0 := fun e => by rw [e, h.ordF.zero] at b; rw [e] at h1 a; omega
    have hm : S.piece c k ∈ S.ord := (h.ordF.lab _).2 ⟨by omega, h.piece_lt c k⟩
    obtain ⟨A, B, hAB⟩ := List.append_of_mem hm
    have hnA : S.piece c k ∉ A := fun hx => by
      have hn := h.ordF.nod
      rw [hAB] at hn
      exact (List.nodup_append.1 hn).2.2 _ hx _ (by simp) rfl
    have s1 := sumF_nn h.ordF.long B
    unfold SS.total
    rw [hAB, aheadF_of hnA, sumF_append, sumF_cons]
    omega
theorem Inv.rightOf_le {S : SS} (h : Inv S) {u : Un} (hu : u.ok) : S.rightOf u ≤ S.total := by
  have := h.total_nn
  unfold SS.rightOf
  split
  · exact Int.le_refl _
  · rcases h.find_le u.rc u.rk hu.rc hu.rk.1 with h' | h' <;> omega
end Go.Proofs.YtnilikomoapcaaaGreat

/- What is so of a sequence behind a cut, a piece more, a run more (no Go in it). -/
namespace Go.Proofs.YtnilikomoapcaaaGreat
set_option linter.unusedVariables false
set_option linter.unusedSimpArgs false

theorem insB_perm {i n : Nat} : ∀ {l : List Nat}, (i = 0 ∨ i ∈ l) → (insB i n l).Perm (n :: l)
  | [], h => by
    rcases h with rfl | h
    · exact List.Perm.refl _
    · cases h
  | x :: l, h => by
    show List.Perm (if i = 0 then n :: x :: l else if x = i then x :: n :: l else x :: insB i n l) (n :: x :: l)
    by_cases h0 : i = 0
    · rw [if_pos h0]
    · rw [if_neg h0]
      by_cases hx : x = i
      · rw [if_pos hx]; exact List.Perm.swap _ _ _
      · rw [if_neg hx]
        have hm : i ∈ l := by
          rcases h with h | h
          · exact absurd h h0
          · rcases List.mem_cons.1 h with h | h
            · exact absurd h.symm hx
            · exact h
        exact (List.Perm.cons x (insB_perm (.inr hm))).trans (List.Perm.swap _ _ _)
theorem sumF_perm {len : Nat → Int} {a b : List Nat} (h : a.Perm b) : sumF len a = sumF len b := by
  induction h with
  | nil => rfl
  | cons x _ ih => rw [sumF_cons, sumF_cons, ih]
  | swap x y l => rw [sumF_cons, sumF_cons, sumF_cons, sumF_cons]; omega
  | trans _ _ ih1 ih2 => rw [ih1, ih2]
theorem sumF_congr {f g : Nat → Int} {l : List Nat} (h : ∀ x ∈ l, f x = g x) : sumF f l = sumF g l := by
  unfold sumF
  rw [List.map_congr_left h]
/-- A row with one thing more. -/
theorem RowF.add {n : Nat} {F : List Nat} {len : Nat → Int} (h : RowF n F len) {i : Nat} (hi : i < n) {lg : Int} (hl : 0 ≤ lg) : RowF (n + 1) (insB i n F) (fun x => len x + (if x = n then lg else 0)) := by
  have hm : i = 0 ∨ i ∈ F := by
    by_cases h0 : i = 0
    · exact .inl h0
    · exact .inr ((h.lab i).2 ⟨by omega, hi⟩)
  have hp := insB_perm (n := n) hm
  have hn := h.n0
  refine ⟨by omega, hp.nodup_iff.2 (List.nodup_cons.2 ⟨fun hx => by have := (h.lab n).1 hx; omega, h.nod⟩), fun x => ?_, fun x => ?_, ?_, fun x hx => ?_⟩
  · rw [hp.mem_iff, List.mem_cons, h.lab]
    constructor
    · rintro (rfl | ⟨a, b⟩)
      · exact ⟨by omega, by omega⟩
      · exact ⟨a, by omega⟩
    · rintro ⟨a, b⟩
      by_cases e : x = n
      · exact .inl e
      · exact .inr ⟨a, by omega⟩
  · have := h.long x
    show 0 ≤ len x + _
    split <;> omega
  · show len 0 + _ = 0
    rw [h.zero, if_neg (by omega)]; rfl
  · show len x + _ = 0
    rw [h.out x (by omega), if_neg (by omega)]; rfl
theorem RowF.grow {n : Nat} {F : List Nat} {len : Nat → Int} (h : RowF n F len) {i : Nat} (hi : i < n) (h0 : i ≠ 0) {m : Int} (hm : 0 ≤ len i + m) : RowF n F (fun x => len x + (if x = i then m else 0)) := by
  refine ⟨h.n0, h.nod, h.lab, fun x => ?_, ?_, fun x hx => ?_⟩
  · show 0 ≤ len x + _
    by_cases e : x = i
    · rw [if_pos e, e]; exact hm
    · rw [if_neg e]; have := h.long x; omega
  · show len 0 + _ = 0
    rw [h.zero, if_neg (by omega)]; rfl
  · show len x + _ = 0
    rw [h.out x hx, if_neg (by omega)]; rfl
theorem sum_add {n : Nat} {F : List Nat} {len : Nat → Int} (h : RowF n F len) {i : Nat} (hi : i < n) (lg : Int) : sumF (fun x => len x + (if x = n then lg else 0)) (insB i n F) = sumF len F + lg := by
  have hm : i = 0 ∨ i ∈ F := by
    by_cases h0 : i = 0
    · exact .inl h0
    · exact .inr ((h.lab i).2 ⟨by omega, hi⟩)
  rw [sumF_perm (insB_perm (n := n) hm), sumF_cons, if_pos rfl, h.out n (Nat.le_refl _)]
  have : sumF (fun x => len x + (if x = n then lg else 0)) F = sumF len F := sumF_congr fun x hx => by
    have := (h.lab x).1 hx
    rw [if_neg (by omega)]; omega
  rw [this]; omega
theorem sum_grow {n : Nat} {F : List Nat} {len : Nat → Int} (h : RowF n F len) {i : Nat} (hi : i < n) (h0 : i ≠ 0) (m : Int) : sumF (fun x => len x + (if x = i then m else 0)) F = sumF len F + m := by
  have hm : i ∈ F := (h.lab i).2 ⟨by omega, hi⟩
  obtain ⟨A, B, e⟩ := List.append_of_mem hm
  have hn := h.nod
  rw [e] at hn
  have hd := List.nodup_append.1 hn
  have hA : i ∉ A := fun hx => hd.2.2 i hx i (by simp) rfl
  have hB : i ∉ B := (List.nodup_cons.1 hd.2.1).1
  rw [e, sumF_append, sumF_append, sumF_cons, sumF_cons, if_pos rfl]
  have e1 : sumF (fun x => len x + (if x = i then m else 0)) A = sumF len A := sumF_congr fun x hx => by rw [if_neg (fun e' => hA (by rw [← e']; exact hx))]; omega
  have e2 : sumF (fun x => len x + (if x = i then m else 0)) B = sumF len B := sumF_congr fun x hx => by rw [if_neg (fun e' => hB (by rw [← e']; exact hx))]; omega
  rw [e1, e2]; omega
/-- Of two pieces: all of the one is ahead of the other, by ids. -/
def BefI (S : SS) (i j : Nat) : Prop := (S.first i).c < (S.first j).c ∨ ((S.first i).c = (S.first j).c ∧ (S.first i).k + S.len i ≤ (S.first j).k)
theorem pc_snoc {S : SS} {x : Sp} {i : Nat} : ({ S with pcs := S.pcs ++ [x] } : SS).pc i = if i < S.pcs.length then S.pc i else if i = S.pcs.length then x else .zero := by
  unfold SS.pc
  by_cases h : i < S.pcs.length
  · rw [if_pos h, List.getElem?_append_left h]
  · rw [if_neg h]
    by_cases e : i = S.pcs.length
    · rw [if_pos e, e, List.getElem?_append_right (Nat.le_refl _), Nat.sub_self]; rfl
    · rw [if_neg e, List.getElem?_eq_none (by simp; omega)]; rfl
/-- A list with one put right behind another stays in order, if that one is behind all ahead, and ahead of all behind. -/
theorem pairwise_ins {R : Nat → Nat → Prop} {i n : Nat} : ∀ {l : List Nat}, l.Nodup → l.Pairwise R → (i = 0 ∨ i ∈ l) → (0 ∉ l) → (∀ x ∈ l, (x = i ∨ (i ≠ 0 ∧ ∃ A B, l = A ++ x :: B ∧ i ∈ B)) → R x n) → (∀ x ∈ l, (i = 0 ∨ ∃ A B, l = A ++ i :: B ∧ x ∈ B) → R n x) → (insB i n l).Pairwise R
  | [], _, _, h, _, _, _ => by
    rcases h with rfl | h
    · exact List.pairwise_singleton _ _
    · cases h
  | y :: l, hnd, hp, h, hz, h1, h2 => by
    have hc := List.pairwise_cons.1 hp
    have hd := List.nodup_cons.1 hnd
    show (if i = 0 then n :: y :: l else if y = i then y :: n :: l else y :: insB i n l).Pairwise R
    by_cases h0 : i = 0
    · rw [if_pos h0]
      exact List.pairwise_cons.2 ⟨fun x hx => h2 x hx (.inl h0), hp⟩
    · rw [if_neg h0]
      by_cases hy : y = i
      · rw [if_pos hy]
        subst hy
        refine List.pairwise_cons.2 ⟨fun x hx => ?_, List.pairwise_cons.2 ⟨fun x hx => h2 x (by simp [hx]) (.inr ⟨[], l, rfl, hx⟩), hc.2⟩⟩
        rcases List.mem_cons.1 hx with rfl | hx
        · exact h1 _ (by simp) (.inl rfl)
        · exact hc.1 x hx
      · rw [if_neg hy]
        have hm : i ∈ l := by
          rcases h with h | h
          · exact absurd h h0
          · rcases List.mem_cons.1 h with h | h
            · exact absurd h.symm hy
            · exact h
        refine List.pairwise_cons.2 ⟨fun x hx => ?_, pairwise_ins hd.2 hc.2 (.inr hm) (fun h' => hz (by simp [h'])) (fun x hx hh => h1 x (by simp [hx]) ?_) (fun x hx hh => h2 x (by simp [hx]) ?_)⟩
        · rcases List.mem_cons.1 ((insB_perm (n := n) (.inr hm)).mem_iff.1 hx) with rfl | hx
          · exact h1 y (by simp) (.inr ⟨h0, [], l, rfl, hm⟩)
          · exact hc.1 x hx
        · rcases hh with hh | ⟨a, A, B, e, hb⟩
          · exact .inl hh
          · exact .inr ⟨a, y :: A, B, by rw [e]; rfl, hb⟩
        · rcases hh with hh | ⟨A, B, e, hb⟩
          · exact .inl hh
          · exact .inr ⟨y :: A, B, by rw [e]; rfl, hb⟩
end Go.Proofs.YtnilikomoapcaaaGreat

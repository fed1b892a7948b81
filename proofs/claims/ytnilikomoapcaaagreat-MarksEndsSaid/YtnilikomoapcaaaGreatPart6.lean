/- Package seq's row: lift, seen from the tree. -/
import Derived.Test.YtnilikomoapcaaaGreatPart5
namespace Go.Proofs.YtnilikomoapcaaaGreat
open Go.RowKit
set_option linter.unusedVariables false
set_option linter.unusedSimpArgs false
set_option maxRecDepth 100000

set_option maxHeartbeats 4000000 in
theorem lift_rowL {w : World} {b k g cap : Nat} {L : List Th} (h : Things w b k g cap L) {c : List Fr} {a d r : Tr} {i u : Nat} (H : Rep (gt L) 0 (plug (.L u r :: c) (.node a i d))) (P : Apart c a d r i u) (hFit : ∀ x ∈ (plug (.L u r :: c) (.node a i d)).flat, x < L.length) (h0 : 0 < L.length) (W0 : (gt L 0).whole = 0) (HG : c = [] → (gt L 0).d1 = u) (hT : Tame (gt L)) :
    Calls Tryz.prog 98 #[rP b k, iV (i : Int)] w fun e w' => e = .returned (.tuple #[]) ∧ (∃ L', Things w' b k g cap L' ∧ L'.length = L.length ∧ gt L' = liftA (gt L) i) ∧ Touch (· = g) w w' := by
  obtain ⟨⟨u1, u2, u3, u4, u5, u6⟩, ⟨i1, i2, i3, i4, i5, i6⟩⟩ := (rep_plug (gt L) (.L u r :: c) (.node a i d)).1 H
  have i1 : (gt L i).up = u := i1
  rw [flat_plug] at hFit
  have hi : i < L.length := hFit i (by simp [Tr.flat])
  have hu : u < L.length := hFit u (by simp [cl, cr])
  have hroot : ∀ t : Tr, (∀ x ∈ t.flat, x < L.length) → t.root < L.length := fun t ht => by
    cases t with
    | nil => exact h0
    | node l x y => exact ht x (by simp [Tr.flat])
  have ha : a.root < L.length := hroot a fun x hx => hFit x (by simp [Tr.flat, hx])
  have hd : d.root < L.length := hroot d fun x hx => hFit x (by simp [Tr.flat, hx])
  have hr : r.root < L.length := hroot r fun x hx => hFit x (by simp [cl, cr, hx])
  have hq : par c < L.length := by
    cases c with
    | nil => exact h0
    | cons f c' =>
      have := par_mem (c := f :: c') (by simp)
      refine hFit _ ?_
      simp only [cl, cr, List.mem_append, List.mem_cons] at this ⊢
      rcases this with h | h <;> simp [h]
  obtain ⟨p, hk, hk2, _, _⟩ := side_par u6 u1 P.uc P.u0 HG
  have ig := par_ne P.ic P.i0
  have ug := par_ne P.uc P.u0
  have hs : sideA (gt L) i = 0 := by
    unfold sideA
    rw [i1]
    exact if_neg (by rw [show (gt L u).d1 = r.root from u3]; exact root_ne P.ir P.i0)
  have hdn : downA (gt L) i (1 - 0) = d.root := by
    unfold downA
    exact i3
  have hM : Mid (gt L) (hangA (hangA (hangA (gt L) (par c) p i) i 1 u) u 0 d.root) i u { gt L i with up := par c, d1 := u } { gt L u with up := i, d0 := d.root } :=
    mid_front i1 i2 i3 u1 u3 hk hk2 P.iu ig ug P.i0 P.u0 (root_ne P.ir P.i0) (root_ne P.ur P.u0) (root_par P.rc) (root_ne P.ib P.i0) (root_ne P.ub P.u0) (root_par P.bc)
    (fun e => by
      cases d with
      | nil => rfl
      | node l x y =>
        cases r with
        | nil => exact e
        | node l' x' y' => exact absurd (root_mem (t := .node l' x' y') (by simp)) (by rw [← e]; exact P.br _ (root_mem (by simp))))
    (root_ne P.ia P.i0) (root_ne P.ua P.u0) (root_par P.ac)
    (fun e => by
      cases a with
      | nil => rfl
      | node l x y =>
        cases d with
        | nil => exact e
        | node l' x' y' => exact absurd (root_mem (t := .node l' x' y') (by simp)) (by rw [← e]; exact P.ab _ (root_mem (by simp)))) W0
  obtain ⟨m1, m2, m3⟩ := hM
  have l3 : (hangL (hangL (hangL L (par c) p i) i (1 - 0) u) u 0 d.root).length = L.length := by rw [hangL_len, hangL_len, hangL_len]
  have g3 : gt (hangL (hangL (hangL L (par c) p i) i (1 - 0) u) u 0 d.root) = hangA (hangA (hangA (gt L) (par c) p i) i 1 u) u 0 d.root := by
    rw [gt_hangL (by rw [hangL_len, hangL_len]; exact hu) (by rw [hangL_len, hangL_len]; exact hd), gt_hangL (by rw [hangL_len]; exact hi) (by rw [hangL_len]; exact hu), gt_hangL hq hi]
  generalize hC : hangA (hangA (hangA (gt L) (par c) p i) i 1 u) u 0 d.root = C at *
  have tA := fun j => hT j
  have wd := m3 d.root (root_ne P.ib P.i0) (root_ne P.ub P.u0)
  have wr := m3 r.root (root_ne P.ir P.i0) (root_ne P.ur P.u0)
  have wa := m3 a.root (root_ne P.ia P.i0) (root_ne P.ua P.u0)
  have bd := tA d.root
  have br := tA r.root
  have ba := tA a.root
  have bu := tA u
  have bi := tA i
  refine lift_any h i u (par c) 0 d.root p hi hu hq hd i1 u1 hs hk hdn (by omega) hk2 (Ne.symm P.iu) (Ne.symm ig) (Ne.symm ug) ?_ ?_
  · intro W hW
    refine count_at hW u (by rw [l3]; exact hu) ?_ ?_ ?_ ?_ ?_ ?_ ?_
    · rw [g3, l3, m2]; exact hd
    · rw [g3, l3, m2]; show (gt L u).d1 < _; rw [show (gt L u).d1 = r.root from u3]; exact hr
    · rw [g3, m2]; exact root_ne P.ub P.u0
    · rw [g3, m2]; show (gt L u).d1 ≠ _; rw [show (gt L u).d1 = r.root from u3]; exact root_ne P.ur P.u0
    · rw [g3, m2]; show 0 ≤ (C d.root).whole ∧ (C d.root).whole ≤ _; rw [wd]; omega
    · rw [g3, m2]; exact ⟨bu.1, bu.2.1⟩
    · rw [g3, m2]; show 0 ≤ (C (gt L u).d1).whole ∧ (C (gt L u).d1).whole ≤ _; rw [show (gt L u).d1 = r.root from u3, wr]; omega
  · intro W hW
    have l4 : (countL (hangL (hangL (hangL L (par c) p i) i (1 - 0) u) u 0 d.root) u).length = L.length := by rw [countL_len, l3]
    have g4 : gt (countL (hangL (hangL (hangL L (par c) p i) i (1 - 0) u) u 0 d.root) u) = countA C u := by rw [gt_countL (by rw [l3]; exact hu), g3]
    have d1 : countA C u i = C i := countA_ne P.iu
    have d2 : (countA C u u).whole = (gt L d.root).whole + (gt L u).long + (gt L r.root).whole := by
      rw [countA_it, m2]
      show (C d.root).whole + (gt L u).long + (C (gt L u).d1).whole = _
      rw [wd, show (gt L u).d1 = r.root from u3, wr]
    have d3 : (countA C u a.root).whole = (gt L a.root).whole := by rw [countA_ne (root_ne P.ua P.u0)]; exact wa
    refine count_at hW i (by rw [l4]; exact hi) ?_ ?_ ?_ ?_ ?_ ?_ ?_
    · rw [g4, l4, d1, m1]; show (gt L i).d0 < _; rw [show (gt L i).d0 = a.root from i2]; exact ha
    · rw [g4, l4, d1, m1]; exact hu
    · rw [g4, d1, m1]; show (gt L i).d0 ≠ _; rw [show (gt L i).d0 = a.root from i2]; exact root_ne P.ia P.i0
    · rw [g4, d1, m1]; exact Ne.symm P.iu
    · rw [g4, d1, m1]; show 0 ≤ (countA C u (gt L i).d0).whole ∧ (countA C u (gt L i).d0).whole ≤ _; rw [show (gt L i).d0 = a.root from i2, d3]; omega
    · rw [g4, d1, m1]; exact ⟨bi.1, bi.2.1⟩
    · rw [g4, d1, m1]; show 0 ≤ (countA C u u).whole ∧ (countA C u u).whole ≤ _; rw [d2]; omega
set_option maxHeartbeats 4000000 in
theorem lift_rowR {w : World} {b k g cap : Nat} {L : List Th} (h : Things w b k g cap L) {c : List Fr} {a d r : Tr} {i u : Nat} (H : Rep (gt L) 0 (plug (.R r u :: c) (.node a i d))) (P : Apart c a d r i u) (hFit : ∀ x ∈ (plug (.R r u :: c) (.node a i d)).flat, x < L.length) (h0 : 0 < L.length) (W0 : (gt L 0).whole = 0) (HG : c = [] → (gt L 0).d1 = u) (hT : Tame (gt L)) :
    Calls Tryz.prog 98 #[rP b k, iV (i : Int)] w fun e w' => e = .returned (.tuple #[]) ∧ (∃ L', Things w' b k g cap L' ∧ L'.length = L.length ∧ gt L' = liftA (gt L) i) ∧ Touch (· = g) w w' := by
  obtain ⟨⟨u1, u2, u3, u4, u5, u6⟩, ⟨i1, i2, i3, i4, i5, i6⟩⟩ := (rep_plug (gt L) (.R r u :: c) (.node a i d)).1 H
  have i1 : (gt L i).up = u := i1
  rw [flat_plug] at hFit
  have hi : i < L.length := hFit i (by simp [Tr.flat])
  have hu : u < L.length := hFit u (by simp [cl, cr])
  have hroot : ∀ t : Tr, (∀ x ∈ t.flat, x < L.length) → t.root < L.length := fun t ht => by
    cases t with
    | nil => exact h0
    | node l x y => exact ht x (by simp [Tr.flat])
  have ha : a.root < L.length := hroot a fun x hx => hFit x (by simp [Tr.flat, hx])
  have hd : d.root < L.length := hroot d fun x hx => hFit x (by simp [Tr.flat, hx])
  have hr : r.root < L.length := hroot r fun x hx => hFit x (by simp [cl, cr, hx])
  have hq : par c < L.length := by
    cases c with
    | nil => exact h0
    | cons f c' =>
      have := par_mem (c := f :: c') (by simp)
      refine hFit _ ?_
      simp only [cl, cr, List.mem_append, List.mem_cons] at this ⊢
      rcases this with h | h <;> simp [h]
  obtain ⟨p, hk, hk2, _, _⟩ := side_par u6 u1 P.uc P.u0 HG
  have ig := par_ne P.ic P.i0
  have ug := par_ne P.uc P.u0
  have hs : sideA (gt L) i = 1 := by
    unfold sideA
    rw [i1]
    exact if_pos u3
  have hdn : downA (gt L) i (1 - 1) = a.root := by
    unfold downA
    exact i2
  have hM : Mid (gt L) (hangA (hangA (hangA (gt L) (par c) p i) i 0 u) u 1 a.root) i u { gt L i with up := par c, d0 := u } { gt L u with up := i, d1 := a.root } :=
    mid_back i1 i2 i3 u1 u2 u3 hk hk2 P.iu ig ug P.i0 P.u0 (root_ne P.ir P.i0) (root_ne P.ur P.u0) (root_par P.rc) (root_ne P.ia P.i0) (root_ne P.ua P.u0) (root_par P.ac) (root_ne P.ib P.i0) (root_ne P.ub P.u0) W0
  obtain ⟨m1, m2, m3⟩ := hM
  have l3 : (hangL (hangL (hangL L (par c) p i) i (1 - 1) u) u 1 a.root).length = L.length := by rw [hangL_len, hangL_len, hangL_len]
  have g3 : gt (hangL (hangL (hangL L (par c) p i) i (1 - 1) u) u 1 a.root) = hangA (hangA (hangA (gt L) (par c) p i) i 0 u) u 1 a.root := by
    rw [gt_hangL (by rw [hangL_len, hangL_len]; exact hu) (by rw [hangL_len, hangL_len]; exact ha), gt_hangL (by rw [hangL_len]; exact hi) (by rw [hangL_len]; exact hu), gt_hangL hq hi]
  generalize hC : hangA (hangA (hangA (gt L) (par c) p i) i 0 u) u 1 a.root = C at *
  have tA := fun j => hT j
  have wa := m3 a.root (root_ne P.ia P.i0) (root_ne P.ua P.u0)
  have wr := m3 r.root (root_ne P.ir P.i0) (root_ne P.ur P.u0)
  have wd := m3 d.root (root_ne P.ib P.i0) (root_ne P.ub P.u0)
  have ba := tA a.root
  have br := tA r.root
  have bd := tA d.root
  have bu := tA u
  have bi := tA i
  refine lift_any h i u (par c) 1 a.root p hi hu hq ha i1 u1 hs hk hdn (by omega) hk2 (Ne.symm P.iu) (Ne.symm ig) (Ne.symm ug) ?_ ?_
  · intro W hW
    refine count_at hW u (by rw [l3]; exact hu) ?_ ?_ ?_ ?_ ?_ ?_ ?_
    · rw [g3, l3, m2]; show (gt L u).d0 < _; rw [show (gt L u).d0 = r.root from u2]; exact hr
    · rw [g3, l3, m2]; exact ha
    · rw [g3, m2]; show (gt L u).d0 ≠ _; rw [show (gt L u).d0 = r.root from u2]; exact root_ne P.ur P.u0
    · rw [g3, m2]; exact root_ne P.ua P.u0
    · rw [g3, m2]; show 0 ≤ (C (gt L u).d0).whole ∧ (C (gt L u).d0).whole ≤ _; rw [show (gt L u).d0 = r.root from u2, wr]; omega
    · rw [g3, m2]; exact ⟨bu.1, bu.2.1⟩
    · rw [g3, m2]; show 0 ≤ (C a.root).whole ∧ (C a.root).whole ≤ _; rw [wa]; omega
  · intro W hW
    have l4 : (countL (hangL (hangL (hangL L (par c) p i) i (1 - 1) u) u 1 a.root) u).length = L.length := by rw [countL_len, l3]
    have g4 : gt (countL (hangL (hangL (hangL L (par c) p i) i (1 - 1) u) u 1 a.root) u) = countA C u := by rw [gt_countL (by rw [l3]; exact hu), g3]
    have d1 : countA C u i = C i := countA_ne P.iu
    have d2 : (countA C u u).whole = (gt L r.root).whole + (gt L u).long + (gt L a.root).whole := by
      rw [countA_it, m2]
      show (C (gt L u).d0).whole + (gt L u).long + (C a.root).whole = _
      rw [show (gt L u).d0 = r.root from u2, wr, wa]
    have d3 : (countA C u d.root).whole = (gt L d.root).whole := by rw [countA_ne (root_ne P.ub P.u0)]; exact wd
    refine count_at hW i (by rw [l4]; exact hi) ?_ ?_ ?_ ?_ ?_ ?_ ?_
    · rw [g4, l4, d1, m1]; exact hu
    · rw [g4, l4, d1, m1]; show (gt L i).d1 < _; rw [show (gt L i).d1 = d.root from i3]; exact hd
    · rw [g4, d1, m1]; exact Ne.symm P.iu
    · rw [g4, d1, m1]; show (gt L i).d1 ≠ _; rw [show (gt L i).d1 = d.root from i3]; exact root_ne P.ib P.i0
    · rw [g4, d1, m1]; show 0 ≤ (countA C u u).whole ∧ (countA C u u).whole ≤ _; rw [d2]; omega
    · rw [g4, d1, m1]; exact ⟨bi.1, bi.2.1⟩
    · rw [g4, d1, m1]; show 0 ≤ (countA C u (gt L i).d1).whole ∧ (countA C u (gt L i).d1).whole ≤ _; rw [show (gt L i).d1 = d.root from i3, d3]; omega
end Go.Proofs.YtnilikomoapcaaaGreat

/- A row in its form; where its foremost thing is; its numbers are right. -/
namespace Go.Proofs.YtnilikomoapcaaaGreat
set_option linter.unusedVariables false
set_option linter.unusedSimpArgs false

theorem gt_out {L : List Th} {x : Nat} (h : L.length ≤ x) : gt L x = ⟨0, 0, 0, 0, 0⟩ := by unfold gt; rw [List.getElem?_eq_none h]; rfl
/-- A thing with nothing, behind: nothing is said of it that wasn't. -/
theorem gt_snoc (L : List Th) : gt (L ++ [⟨0, 0, 0, 0, 0⟩]) = gt L := by
  funext x
  by_cases h : x < L.length
  · unfold gt
    rw [List.getElem?_append_left h]
  · rw [gt_out (L := L) (by omega)]
    by_cases e : x = L.length
    · subst e
      show ((L ++ [_])[L.length]?).getD _ = _
      rw [List.getElem?_append_right (Nat.le_refl _), Nat.sub_self]
      rfl
    · exact gt_out (by simp; omega)
/-- A row in its form: n things, thing 0 among them; the tree t of all others hangs on thing 0's back. -/
structure RowOk (A : Nat → Th) (n : Nat) (t : Tr) : Prop where
  n0 : 0 < n
  head : A 0 = ⟨0, 0, t.root, 0, 0⟩
  rep : Rep A 0 t
  nod : t.flat.Nodup
  lab : ∀ x, x ∈ t.flat ↔ 1 ≤ x ∧ x < n
  long : ∀ x, 0 ≤ (A x).long
  out : ∀ x, n ≤ x → A x = ⟨0, 0, 0, 0, 0⟩
theorem RowOk.new : RowOk (gt [⟨0, 0, 0, 0, 0⟩]) 1 .nil := by
  refine ⟨by omega, rfl, trivial, List.nodup_nil, fun x => ⟨fun h => (List.not_mem_nil h).elim, fun h => absurd h.2 (by omega)⟩, fun x => ?_, fun x hx => gt_out hx⟩
  by_cases h : x = 0
  · subst h; exact Int.le_refl _
  · rw [gt_out (by show 1 ≤ x; omega)]
    exact Int.le_refl _
/-- Each one's whole is at most the whole's. -/
theorem Rep.tame {A : Nat → Th} (hl : ∀ x, 0 ≤ (A x).long) : ∀ {t : Tr} {p : Nat}, Rep A p t → ∀ x ∈ t.flat, (A x).long ≤ t.sum A ∧ 0 ≤ (A x).whole ∧ (A x).whole ≤ t.sum A
  | .node l i r, p, ⟨h1, h2, h3, h4, h5, h6⟩, x, hx => by
    have s1 := Tr.sum_nn hl l
    have s2 := Tr.sum_nn hl r
    have s3 := hl i
    simp only [Tr.flat, List.mem_append, List.mem_cons] at hx
    simp only [Tr.sum]
    rcases hx with hx | rfl | hx
    · have := Rep.tame hl h5 x hx
      omega
    · omega
    · have := Rep.tame hl h6 x hx
      omega
theorem RowOk.tame {A : Nat → Th} {n : Nat} {t : Tr} (h : RowOk A n t) (hs : t.sum A ≤ 1152921504606846976) : Tame A := fun x => by
  by_cases h0 : x = 0
  · rw [h0, h.head]
    have e : (0 : Int) ≤ 1152921504606846976 := by decide
    exact ⟨Int.le_refl _, e, Int.le_refl _, e⟩
  by_cases hx : x < n
  · have := Rep.tame h.long h.rep x ((h.lab x).2 ⟨by omega, hx⟩)
    have := h.long x
    omega
  · rw [h.out x (by omega)]
    exact ⟨Int.le_refl _, by decide, Int.le_refl _, by decide⟩
theorem plug_append : ∀ (c' c : List Fr) (t : Tr), plug (c' ++ c) t = plug c (plug c' t)
  | [], _, _ => rfl
  | .L u r :: c', c, t => plug_append c' c (.node t u r)
  | .R l u :: c', c, t => plug_append c' c (.node l u t)
/-- The foremost has nothing on its front, and nothing is ahead of it. -/
theorem focus_first : ∀ {t : Tr}, t ≠ .nil → ∃ (c : List Fr) (a : Tr), t = plug c (.node .nil t.first a) ∧ cl c = []
  | .nil, h => absurd rfl h
  | .node .nil i r, _ => ⟨[], r, rfl, rfl⟩
  | .node (.node x j y) i r, _ => by
    obtain ⟨c, a, e, hc⟩ := focus_first (t := .node x j y) (by simp)
    refine ⟨c ++ [.L i r], a, ?_, ?_⟩
    · rw [plug_append]
      show Tr.node (.node x j y) i r = .node (plug c (.node .nil (Tr.node x j y).first a)) i r
      rw [← e]
    · have key : ∀ c : List Fr, cl c = [] → cl (c ++ [.L i r]) = [] := by
        intro c
        induction c with
        | nil => intro _; rfl
        | cons f c ih =>
          cases f with
          | L u q => intro h; exact ih h
          | R l u => intro h; simp [cl] at h
      exact key c hc
end Go.Proofs.YtnilikomoapcaaaGreat

/- What is so while a new thing is lifted. -/
namespace Go.Proofs.YtnilikomoapcaaaGreat
set_option linter.unusedVariables false
set_option linter.unusedSimpArgs false

theorem apart_L {c : List Fr} {a b r : Tr} {i u : Nat} (N : (plug (.L u r :: c) (.node a i b)).flat.Nodup) (Z : 0 ∉ (plug (.L u r :: c) (.node a i b)).flat) : Apart c a b r i u := by
  refine apart_of ?_ N Z
  rw [flat_plug]
  refine List.perm_iff_count.2 fun x => ?_
  simp only [cl, cr, Tr.flat, List.count_append, List.count_cons]
  omega
theorem apart_R {c : List Fr} {a b r : Tr} {i u : Nat} (N : (plug (.R r u :: c) (.node a i b)).flat.Nodup) (Z : 0 ∉ (plug (.R r u :: c) (.node a i b)).flat) : Apart c a b r i u := by
  refine apart_of ?_ N Z
  rw [flat_plug]
  refine List.perm_iff_count.2 fun x => ?_
  simp only [cl, cr, Tr.flat, List.count_append, List.count_cons, List.count_nil]
  omega
theorem topC_any {c : List Fr} (h : c ≠ []) (i j : Nat) : topC c i = topC c j := by
  cases c with
  | nil => exact absurd rfl h
  | cons f c => cases f <;> rfl
/-- A row in its form, seen from the thing x; F: how they stand; g: how long they are. -/
structure Seen (A : Nat → Th) (n x : Nat) (F : List Nat) (g : Nat → Int) (c : List Fr) (a b : Tr) : Prop where
  ok : RowOk A n (plug c (.node a x b))
  flat : (plug c (.node a x b)).flat = F
  long : ∀ j, (A j).long = g j
theorem Tr.sum_flat {A : Nat → Th} : ∀ {t : Tr}, t.sum A = (t.flat.map fun x => (A x).long).sum
  | .nil => rfl
  | .node l i r => by
    have h1 := Tr.sum_flat (A := A) (t := l)
    have h2 := Tr.sum_flat (A := A) (t := r)
    simp only [Tr.sum, Tr.flat, List.map_append, List.map_cons, List.sum_append, List.sum_cons, h1, h2]
    omega
theorem Seen.zero {A : Nat → Th} {n x : Nat} {F : List Nat} {g : Nat → Int} {c : List Fr} {a b : Tr} (h : Seen A n x F g c a b) : 0 ∉ (plug c (.node a x b)).flat := fun h0 => by
  have := (h.ok.lab 0).1 h0
  omega
/-- Lifted it is seen from one lower. -/
theorem Seen.lift {A : Nat → Th} {n x : Nat} {F : List Nat} {g : Nat → Int} {f : Fr} {c : List Fr} {a b : Tr} (h : Seen A n x F g (f :: c) a b) : ∃ a' b', Seen (liftA A x) n x F g c a' b' := by
  have hW : (A 0).whole = 0 := by rw [h.ok.head]
  cases f with
  | L u r =>
    have P := apart_L h.ok.nod h.zero
    have hd : (A 0).d1 = topC c u := by
      have := h.ok.head
      rw [this]
      exact root_plug (.L u r :: c) (.node a x b)
    obtain ⟨q1, q2, q3, q4⟩ := lift_repL h.ok.rep P hW (fun e => by rw [hd, e]; rfl)
    have hfl := (flat_lift c a b r x u).1
    refine ⟨a, .node b u r, ⟨⟨h.ok.n0, ?_, q1, by rw [hfl]; exact h.ok.nod, fun y => by rw [hfl]; exact h.ok.lab y, fun y => by rw [q4]; exact h.ok.long y, fun y hy => ?_⟩, by rw [hfl]; exact h.flat, fun j => by rw [q4]; exact h.long j⟩⟩
    · rw [q2, root_plug]
      by_cases hc : c = []
      · rw [if_pos hc, hc, h.ok.head]; rfl
      · rw [if_neg hc, h.ok.head, root_plug]
        show (⟨0, 0, topC c u, 0, 0⟩ : Th) = ⟨0, 0, topC c x, 0, 0⟩
        rw [topC_any hc u x]
    · have hy' : y ∉ (plug (.L u r :: c) (.node a x b)).flat := fun h9 => by have := (h.ok.lab y).1 h9; omega
      rw [flat_plug] at hy'
      have hn0 := h.ok.n0
      rw [q3 y (fun h9 => hy' (by rcases List.mem_append.1 h9 with h9 | h9 <;> simp [cl, cr, h9])) (fun e => hy' (by rw [e]; simp [Tr.flat])) (fun e => hy' (by rw [e]; simp [cl, cr])) (fun h9 => hy' (by simp [Tr.flat, h9])) (by omega)]
      exact h.ok.out y hy
  | R r u =>
    have P := apart_R h.ok.nod h.zero
    have hd : (A 0).d1 = topC c u := by
      have := h.ok.head
      rw [this]
      exact root_plug (.R r u :: c) (.node a x b)
    obtain ⟨q1, q2, q3, q4⟩ := lift_repR h.ok.rep P hW (fun e => by rw [hd, e]; rfl)
    have hfl := (flat_lift c a b r x u).2
    refine ⟨.node r u a, b, ⟨⟨h.ok.n0, ?_, q1, by rw [hfl]; exact h.ok.nod, fun y => by rw [hfl]; exact h.ok.lab y, fun y => by rw [q4]; exact h.ok.long y, fun y hy => ?_⟩, by rw [hfl]; exact h.flat, fun j => by rw [q4]; exact h.long j⟩⟩
    · rw [q2, root_plug]
      by_cases hc : c = []
      · rw [if_pos hc, hc, h.ok.head]; rfl
      · rw [if_neg hc, h.ok.head, root_plug]
        show (⟨0, 0, topC c u, 0, 0⟩ : Th) = ⟨0, 0, topC c x, 0, 0⟩
        rw [topC_any hc u x]
    · have hy' : y ∉ (plug (.R r u :: c) (.node a x b)).flat := fun h9 => by have := (h.ok.lab y).1 h9; omega
      rw [flat_plug] at hy'
      have hn0 := h.ok.n0
      rw [q3 y (fun h9 => hy' (by rcases List.mem_append.1 h9 with h9 | h9 <;> simp [cl, cr, h9])) (fun e => hy' (by rw [e]; simp [Tr.flat])) (fun e => hy' (by rw [e]; simp [cl, cr])) (fun h9 => hy' (by simp [Tr.flat, h9])) (by omega)]
      exact h.ok.out y hy
end Go.Proofs.YtnilikomoapcaaaGreat

/- A new thing, hung and grown: the row in its form, seen from it. -/
namespace Go.Proofs.YtnilikomoapcaaaGreat
set_option linter.unusedVariables false
set_option linter.unusedSimpArgs false

theorem grow_other {A : Nat → Th} {i : Nat} {P : List Nat} {n : Int} {j : Nat} (h1 : j ≠ i) (h2 : j ∉ P) : growA A i P n j = A j := by simp [growA, moreW, moreL, h1, h2]
theorem grow_long {A : Nat → Th} {i : Nat} {P : List Nat} {n : Int} (j : Nat) : (growA A i P n j).long = (A j).long + (if j = i then n else 0) := by
  unfold growA moreW moreL
  by_cases h1 : j = i
  · subst h1
    by_cases h2 : j ∈ P <;> simp [h2]
  · by_cases h2 : j ∈ P <;> simp [h1, h2]
theorem ups_flat {c : List Fr} {t : Tr} {x : Nat} (h : x ∈ ups c) : x ∈ (plug c t).flat := by
  rw [flat_plug]
  rcases List.mem_append.1 (ups_sub h) with h | h <;> simp [h]
/-- Out of a leaf that is hung: the row in its form. -/
theorem seen_of {A A1 : Nat → Th} {n : Nat} {c : List Fr} {F : List Nat} {lg : Int} (hr : Rep A1 0 (plug c (.node .nil n .nil))) (hfl : (plug c (.node .nil n .nil)).flat = F) (hN : F.Nodup) (hlab : ∀ x, x ∈ F ↔ 1 ≤ x ∧ x < n + 1) (hhd : A1 0 = ⟨0, 0, (plug c (.node .nil n .nil)).root, 0, 0⟩) (hlong : ∀ x, (A1 x).long = (A x).long) (hA : ∀ x, 0 ≤ (A x).long) (hout : ∀ x, n + 1 ≤ x → A1 x = ⟨0, 0, 0, 0, 0⟩) (hl : 0 ≤ lg) :
    Seen (growA A1 n (n :: ups c) lg) (n + 1) n F (fun x => (A x).long + (if x = n then lg else 0)) c .nil .nil := by
  have hup : ∀ x ∈ n :: ups c, x ∈ F := fun x hx => by
    rw [← hfl]
    rcases List.mem_cons.1 hx with rfl | hx
    · rw [flat_plug]; simp [Tr.flat]
    · exact ups_flat hx
  have hnn : n ∈ F := hup n (by simp)
  have hn1 := (hlab n).1 hnn
  refine ⟨⟨by omega, ?_, grow_rep hr (by rw [hfl]; exact hN), by rw [hfl]; exact hN, fun x => by rw [hfl]; exact hlab x, fun x => ?_, fun x hx => ?_⟩, hfl, fun j => ?_⟩
  · rw [grow_other (by omega) (fun h => by have := (hlab 0).1 (hup 0 h); omega), hhd]
  · rw [grow_long, hlong]
    have := hA x
    split <;> omega
  · rw [grow_other (by omega) (fun h => by have := (hlab x).1 (hup x h); omega), hout x hx]
  · rw [grow_long, hlong]
theorem fresh_of {A : Nat → Th} {n : Nat} {t : Tr} (h : RowOk A n t) : Fresh A n t.flat := ⟨by have := h.n0; omega, fun hx => by have := (h.lab n).1 hx; omega, h.out n (Nat.le_refl _)⟩
theorem ins_nodup {P Q : List Nat} {n : Nat} (h : (P ++ Q).Nodup) (hn : n ∉ P ++ Q) : (P ++ n :: Q).Nodup := by
  have hp : (P ++ n :: Q).Perm (n :: (P ++ Q)) := List.perm_middle
  exact hp.nodup_iff.2 (List.nodup_cons.2 ⟨hn, h⟩)
/-- The new one on the back of i. -/
theorem seen_back {A : Nat → Th} {n i : Nat} {c : List Fr} {a : Tr} {lg : Int} (h : RowOk A n (plug c (.node a i .nil))) (hl : 0 ≤ lg) :
    Seen (growA (hangA A i 1 n) n (n :: ups (.R a i :: c)) lg) (n + 1) n (cl c ++ (a.flat ++ [i]) ++ n :: cr c) (fun x => (A x).long + (if x = n then lg else 0)) (.R a i :: c) .nil .nil := by
  have hF := fresh_of h
  have hfl := flat_leaf_back c a i n
  have him : i ∈ (plug c (.node a i .nil)).flat := by rw [flat_plug]; simp [Tr.flat]
  have hi := (h.lab i).1 him
  have un : i ≠ n := by omega
  obtain ⟨f1, f2, f3⟩ := hang_facts (s := 1) hF un
  have hnd : (cl c ++ (a.flat ++ [i]) ++ cr c).Nodup := by rw [← hfl.2]; exact h.nod
  have hnn : n ∉ cl c ++ (a.flat ++ [i]) ++ cr c := by rw [← hfl.2]; exact hF.nl
  have hn0 := hF.n0
  refine seen_of (leaf_back h.rep h.nod hF) hfl.1 (ins_nodup hnd hnn) (fun x => ?_) ?_ (fun x => ?_) h.long (fun x hx => ?_) hl
  · have := h.lab x
    rw [hfl.2] at this
    rw [List.mem_append, List.mem_cons]
    rw [List.mem_append] at this
    have hn0 := h.n0
    constructor
    · rintro (h9 | rfl | h9)
      · have := this.1 (.inl h9); omega
      · omega
      · have := this.1 (.inr h9); omega
    · intro h9
      by_cases e : x = n
      · exact .inr (.inl e)
      · rcases this.2 (by omega) with h8 | h8
        · exact .inl h8
        · exact .inr (.inr h8)
  · rw [f3 0 (by omega) (by omega), h.head, root_plug, root_plug]
    rfl
  · by_cases h1 : x = i
    · rw [h1, f1]; rfl
    · by_cases h2 : x = n
      · rw [h2, f2, hF.th]
      · rw [f3 x h1 h2]
  · rw [f3 x (by omega) (by omega)]
    exact h.out x (by omega)
/-- The new one on the front of u. -/
theorem seen_front {A : Nat → Th} {n u : Nat} {c : List Fr} {a : Tr} {lg : Int} (h : RowOk A n (plug c (.node .nil u a))) (hl : 0 ≤ lg) :
    Seen (growA (hangA A u 0 n) n (n :: ups (.L u a :: c)) lg) (n + 1) n (cl c ++ n :: (u :: a.flat ++ cr c)) (fun x => (A x).long + (if x = n then lg else 0)) (.L u a :: c) .nil .nil := by
  have hF := fresh_of h
  have hfl := flat_leaf_front c a u n
  have him : u ∈ (plug c (.node .nil u a)).flat := by rw [flat_plug]; simp [Tr.flat]
  have hi := (h.lab u).1 him
  have un : u ≠ n := by omega
  obtain ⟨f1, f2, f3⟩ := hang_facts (s := 0) hF un
  have hnd : (cl c ++ (u :: a.flat ++ cr c)).Nodup := by rw [← hfl.2]; exact h.nod
  have hnn : n ∉ cl c ++ (u :: a.flat ++ cr c) := by rw [← hfl.2]; exact hF.nl
  have hn0 := hF.n0
  refine seen_of (leaf_front h.rep h.nod hF) hfl.1 (ins_nodup hnd hnn) (fun x => ?_) ?_ (fun x => ?_) h.long (fun x hx => ?_) hl
  · have := h.lab x
    rw [hfl.2] at this
    rw [List.mem_append, List.mem_cons]
    rw [List.mem_append] at this
    have hn0 := h.n0
    constructor
    · rintro (h9 | rfl | h9)
      · have := this.1 (.inl h9); omega
      · omega
      · have := this.1 (.inr h9); omega
    · intro h9
      by_cases e : x = n
      · exact .inr (.inl e)
      · rcases this.2 (by omega) with h8 | h8
        · exact .inl h8
        · exact .inr (.inr h8)
  · rw [f3 0 (by omega) (by omega), h.head, root_plug, root_plug]
    rfl
  · by_cases h1 : x = u
    · rw [h1, f1]; rfl
    · by_cases h2 : x = n
      · rw [h2, f2, hF.th]
      · rw [f3 x h1 h2]
  · rw [f3 x (by omega) (by omega)]
    exact h.out x (by omega)
end Go.Proofs.YtnilikomoapcaaaGreat

/- Where add hangs a new thing. -/
namespace Go.Proofs.YtnilikomoapcaaaGreat
set_option linter.unusedVariables false
set_option linter.unusedSimpArgs false

theorem seen_empty {A : Nat → Th} {n : Nat} {lg : Int} (h : RowOk A n .nil) (hl : 0 ≤ lg) : Rep (hangA A 0 1 n) 0 (.node .nil n .nil) ∧
    Seen (growA (hangA A 0 1 n) n (n :: ups []) lg) (n + 1) n ([] ++ n :: []) (fun x => (A x).long + (if x = n then lg else 0)) [] .nil .nil := by
  have hF := fresh_of h
  have hn0 := h.n0
  have hn1 : n = 1 := by
    by_cases e : n = 1
    · exact e
    · have : 1 ∈ Tr.flat .nil := (h.lab 1).2 ⟨by omega, by omega⟩
      cases this
  obtain ⟨f1, f2, f3⟩ := hang_facts (s := 1) (u := 0) hF (by omega)
  have hr : Rep (hangA A 0 1 n) 0 (.node .nil n .nil) := ⟨by rw [f2], by rw [f2]; rfl, by rw [f2]; rfl, by rw [f2]; rfl, trivial, trivial⟩
  refine ⟨hr, seen_of (A1 := hangA A 0 1 n) (c := []) hr rfl (by simp) (fun x => ?_) ?_ (fun x => ?_) h.long (fun x hx => ?_) hl⟩
  · simp
    omega
  · rw [f1, h.head]
    simp [Th.put]
    rfl
  · by_cases h1 : x = 0
    · rw [h1, f1]; rfl
    · by_cases h2 : x = n
      · rw [h2, f2, hF.th]
      · rw [f3 x h1 h2]
  · rw [f3 x (by omega) (by omega)]
    exact h.out x (by omega)
theorem cl_append : ∀ (c' c : List Fr), cl c' = [] → cl (c' ++ c) = cl c
  | [], _, _ => rfl
  | .L u r :: c', c, h => cl_append c' c h
  | .R l u :: c', c, h => by simp [cl] at h
/-- The right side of i, and what add makes there. -/
structure Hung (A : Nat → Th) (n i : Nat) (t : Tr) (lg : Int) (d : Tr) (c1 : List Fr) (P Q : List Nat) : Prop where
  d1 : (A i).d1 = d.root
  rep : Rep A i d
  fits : d.Fits n
  hung : Rep (hangA A (if d.root = 0 then i else d.first) (if d.root = 0 then 1 else 0) n) 0 (plug c1 (.node .nil n .nil))
  seen : Seen (growA (hangA A (if d.root = 0 then i else d.first) (if d.root = 0 then 1 else 0) n) n (n :: ups c1) lg) (n + 1) n (P ++ n :: Q) (fun x => (A x).long + (if x = n then lg else 0)) c1 .nil .nil
  flat : t.flat = P ++ Q
  behind : (i = 0 ∧ P = []) ∨ (i ≠ 0 ∧ ∃ P', P = P' ++ [i])
  ult : (if d.root = 0 then i else d.first) < n
theorem fits_root {d : Tr} {n : Nat} (h : d.Fits n) (hd : d ≠ .nil) : d.root ≠ 0 := (h _ (root_mem hd)).2
theorem first_mem {t : Tr} (h : t ≠ .nil) : t.first ∈ t.flat := by
  obtain ⟨l, e⟩ := first_head h
  rw [e]; simp
theorem hung_of {A : Nat → Th} {n i : Nat} {t : Tr} {lg : Int} (h : RowOk A n t) (hi : i < n) (hl : 0 ≤ lg) : ∃ d c1 P Q, Hung A n i t lg d c1 P Q := by
  have hft : t.Fits n := fun x hx => by have := (h.lab x).1 hx; exact ⟨by omega, by omega⟩
  by_cases h0 : i = 0
  · subst h0
    have hd : (A 0).d1 = t.root := by rw [h.head]
    cases ht : t with
    | nil =>
      subst ht
      obtain ⟨q1, q2⟩ := seen_empty h hl
      exact ⟨.nil, [], [], [], ⟨hd, trivial, hft, q1, q2, rfl, .inl ⟨rfl, rfl⟩, h.n0⟩⟩
    | node l x r =>
      rw [← ht]
      have hne : t ≠ .nil := by rw [ht]; simp
      have hr0 := fits_root hft hne
      obtain ⟨c, a, e, hc⟩ := focus_first hne
      have h' := h
      rw [e] at h'
      have hs := seen_front (lg := lg) h' hl
      have hf := leaf_front h'.rep h'.nod (fresh_of h')
      refine ⟨t, .L t.first a :: c, cl c, t.first :: a.flat ++ cr c, ⟨hd, h.rep, hft, by rw [if_neg hr0, if_neg hr0]; exact hf, by rw [if_neg hr0, if_neg hr0]; exact hs, ?_, .inl ⟨rfl, hc⟩, by rw [if_neg hr0]; exact (hft _ (first_mem hne)).1⟩⟩
      have := (flat_leaf_front c a t.first n).2
      rw [← e] at this
      exact this
  · have him : i ∈ t.flat := (h.lab i).2 ⟨by omega, hi⟩
    obtain ⟨c', a, d, e⟩ := focus him []
    rw [List.append_nil] at e
    have e : t = plug c' (.node a i d) := e
    have h' := h
    rw [e] at h'
    obtain ⟨hC, i1, i2, i3, i4, i5, i6⟩ := (rep_plug A c' (.node a i d)).1 h'.rep
    have hfd : d.Fits n := fun x hx => hft x (by rw [e, flat_plug]; simp [Tr.flat, hx])
    cases hd : d with
    | nil =>
      subst hd
      have hs := seen_back (lg := lg) h' hl
      have hf := leaf_back h'.rep h'.nod (fresh_of h')
      refine ⟨.nil, .R a i :: c', cl c' ++ (a.flat ++ [i]), cr c', ⟨i3, trivial, hfd, hf, hs, ?_, .inr ⟨h0, cl c' ++ a.flat, by simp⟩, hi⟩⟩
      rw [e]
      exact (flat_leaf_back c' a i n).2
    | node l x r =>
      have hne : d ≠ .nil := by rw [hd]; simp
      have hr0 := fits_root hfd hne
      obtain ⟨c, a', e2, hc⟩ := focus_first hne
      have e3 : t = plug (c ++ .R a i :: c') (.node .nil d.first a') := by
        rw [plug_append, ← e2]
        exact e
      have h3 := h
      rw [e3] at h3
      have hs := seen_front (lg := lg) h3 hl
      have hf := leaf_front h3.rep h3.nod (fresh_of h3)
      have hcl : cl (c ++ .R a i :: c') = cl c' ++ (a.flat ++ [i]) := cl_append c _ hc
      refine ⟨d, .L d.first a' :: (c ++ .R a i :: c'), cl (c ++ .R a i :: c'), d.first :: a'.flat ++ cr (c ++ .R a i :: c'), ⟨i3, i6, hfd, by rw [if_neg hr0, if_neg hr0]; exact hf, by rw [if_neg hr0, if_neg hr0]; exact hs, ?_, .inr ⟨h0, cl c' ++ a.flat, by rw [hcl]; simp⟩, by rw [if_neg hr0]; exact (hfd _ (first_mem hne)).1⟩⟩
      have := (flat_leaf_front (c ++ .R a i :: c') a' d.first n).2
      rw [← e3] at this
      exact this
end Go.Proofs.YtnilikomoapcaaaGreat

/- Package seq's row: add. -/
namespace Go.Proofs.YtnilikomoapcaaaGreat
open Go.RowKit
set_option linter.unusedVariables false
set_option linter.unusedSimpArgs false
set_option maxRecDepth 100000

set_option maxHeartbeats 2000000 in
theorem drawn_any (i : Int) (w : World) : Calls Tryz.prog 97 #[iV i] w fun e w' => (∃ v : Int, e = .returned (.int .u64 v)) ∧ w' = w := by
  go_enter Tryz.func97, Tryz.ntmps97
  go_wp2_with fail
  go_ret
  exact ⟨⟨_, rfl⟩, rfl⟩
/-- lift, at a row in its form. -/
theorem lift_seen {w : World} {b k g cap : Nat} {L : List Th} (h : Things w b k g cap L) {n x : Nat} {F : List Nat} {q : Nat → Int} {f : Fr} {c : List Fr} {a d : Tr} (hn : L.length = n) (hS : Seen (gt L) n x F q (f :: c) a d) (hs : (plug (f :: c) (.node a x d)).sum (gt L) ≤ 1152921504606846976) :
    Calls Tryz.prog 98 #[rP b k, iV (x : Int)] w fun e w' => e = .returned (.tuple #[]) ∧ (∃ L' a' d', Things w' b k g cap L' ∧ L'.length = n ∧ Seen (gt L') n x F q c a' d') ∧ Touch (· = g) w w' := by
  have hW : (gt L 0).whole = 0 := by rw [hS.ok.head]
  have hfit : ∀ y ∈ (plug (f :: c) (.node a x d)).flat, y < L.length := fun y hy => by rw [hn]; exact ((hS.ok.lab y).1 hy).2
  have hT := hS.ok.tame hs
  obtain ⟨a', d', hS'⟩ := hS.lift
  have fin : ∀ (e : Ending) (w' : World), (e = .returned (.tuple #[]) ∧ (∃ L', Things w' b k g cap L' ∧ L'.length = L.length ∧ gt L' = liftA (gt L) x) ∧ Touch (· = g) w w') → (e = .returned (.tuple #[]) ∧ (∃ L' a' d', Things w' b k g cap L' ∧ L'.length = n ∧ Seen (gt L') n x F q c a' d') ∧ Touch (· = g) w w') := by
    rintro e w' ⟨rfl, ⟨L', h1, h2, h3⟩, t⟩
    exact ⟨rfl, ⟨L', a', d', h1, by rw [h2]; exact hn, by rw [h3]; exact hS'⟩, t⟩
  cases f with
  | L u r =>
    have hd : (gt L 0).d1 = topC c u := by rw [hS.ok.head]; exact root_plug (.L u r :: c) (.node a x d)
    exact (lift_rowL h hS.ok.rep (apart_L hS.ok.nod hS.zero) hfit (by rw [hn]; exact hS.ok.n0) hW (fun e => by rw [hd, e]; rfl) hT).mono fin
  | R r u =>
    have hd : (gt L 0).d1 = topC c u := by rw [hS.ok.head]; exact root_plug (.R r u :: c) (.node a x d)
    exact (lift_rowR h hS.ok.rep (apart_R hS.ok.nod hS.zero) hfit (by rw [hn]; exact hS.ok.n0) hW (fun e => by rw [hd, e]; rfl) hT).mono fin
end Go.Proofs.YtnilikomoapcaaaGreat

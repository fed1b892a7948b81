/- Package seq's row: lift, seen from the tree. -/
import Derived.Test.YtcolbgbmnmkogabSeqRb
import Derived.Test.YtcolbgbmnmkogabTreT
namespace Go.Proofs.Ytcolbgbmnmkogab
open Go.RowKit
set_option linter.unusedVariables false
set_option linter.unusedSimpArgs false
set_option maxRecDepth 100000

set_option maxHeartbeats 4000000 in
theorem lift_rowL {w : World} {b k g cap : Nat} {L : List Th} (h : Things w b k g cap L) {c : List Fr} {a d r : Tr} {i u : Nat} (H : Rep (gt L) 0 (plug (.L u r :: c) (.node a i d))) (P : Apart c a d r i u) (hFit : ∀ x ∈ (plug (.L u r :: c) (.node a i d)).flat, x < L.length) (h0 : 0 < L.length) (W0 : (gt L 0).whole = 0) (HG : c = [] → (gt L 0).d1 = u) (hT : Tame (gt L)) :
    Calls Try.prog 76 #[rP b k, iV (i : Int)] w fun e w' => e = .returned (.tuple #[]) ∧ (∃ L', Things w' b k g cap L' ∧ L'.length = L.length ∧ gt L' = liftA (gt L) i) ∧ Touch (· = g) w w' := by
  obtain ⟨⟨u1, u2, u3, u4, u5, u6⟩, ⟨i1, i2, i3, i4, i5, i6⟩⟩ := (rep_plug (gt L) (.L u r :: c) (.node a i d)).1 H
  have i1 : (gt L i).up = u := i1
  rw [flat_plug] at hFit
  have hi : i < L.length := hFit i (by simp [Tr.flat])
  have hu : u < L.length := hFit u (by simp [cl, cr])
  have hroot : ∀ t : Tr, (∀ x ∈ t.flat, x < L.length) → t.root < L.length := fun t ht => by
    cases t with
    | nil => exact h0
    | node l x y => exact ht x (by simp [Tr.flat])
  have ha : a.root < L.length := hroot a fun x hx => hFit x (by simp [Tr.flat, hx])
  have hd : d.root < L.length := hroot d fun x hx => hFit x (by simp [Tr.flat, hx])
  have hr : r.root < L.length := hroot r fun x hx => hFit x (by simp [cl, cr, hx])
  have hq : par c < L.length := by
    cases c with
    | nil => exact h0
    | cons f c' =>
      have := par_mem (c := f :: c') (by simp)
      refine hFit _ ?_
      simp only [cl, cr, List.mem_append, List.mem_cons] at this ⊢
      rcases this with h | h <;> simp [h]
  obtain ⟨p, hk, hk2, _, _⟩ := side_par u6 u1 P.uc P.u0 HG
  have ig := par_ne P.ic P.i0
  have ug := par_ne P.uc P.u0
  have hs : sideA (gt L) i = 0 := by
    unfold sideA
    rw [i1]
    exact if_neg (by rw [show (gt L u).d1 = r.root from u3]; exact root_ne P.ir P.i0)
  have hdn : downA (gt L) i (1 - 0) = d.root := by
    unfold downA
    exact i3
  have hM : Mid (gt L) (hangA (hangA (hangA (gt L) (par c) p i) i 1 u) u 0 d.root) i u { gt L i with up := par c, d1 := u } { gt L u with up := i, d0 := d.root } :=
    mid_front i1 i2 i3 u1 u3 hk hk2 P.iu ig ug P.i0 P.u0 (root_ne P.ir P.i0) (root_ne P.ur P.u0) (root_par P.rc) (root_ne P.ib P.i0) (root_ne P.ub P.u0) (root_par P.bc)
    (fun e => by
      cases d with
      | nil => rfl
      | node l x y =>
        cases r with
        | nil => exact e
        | node l' x' y' => exact absurd (root_mem (t := .node l' x' y') (by simp)) (by rw [← e]; exact P.br _ (root_mem (by simp))))
    (root_ne P.ia P.i0) (root_ne P.ua P.u0) (root_par P.ac)
    (fun e => by
      cases a with
      | nil => rfl
      | node l x y =>
        cases d with
        | nil => exact e
        | node l' x' y' => exact absurd (root_mem (t := .node l' x' y') (by simp)) (by rw [← e]; exact P.ab _ (root_mem (by simp)))) W0
  obtain ⟨m1, m2, m3⟩ := hM
  have l3 : (hangL (hangL (hangL L (par c) p i) i (1 - 0) u) u 0 d.root).length = L.length := by rw [hangL_len, hangL_len, hangL_len]
  have g3 : gt (hangL (hangL (hangL L (par c) p i) i (1 - 0) u) u 0 d.root) = hangA (hangA (hangA (gt L) (par c) p i) i 1 u) u 0 d.root := by
    rw [gt_hangL (by rw [hangL_len, hangL_len]; exact hu) (by rw [hangL_len, hangL_len]; exact hd), gt_hangL (by rw [hangL_len]; exact hi) (by rw [hangL_len]; exact hu), gt_hangL hq hi]
  generalize hC : hangA (hangA (hangA (gt L) (par c) p i) i 1 u) u 0 d.root = C at *
  have tA := fun j => hT j
  have wd := m3 d.root (root_ne P.ib P.i0) (root_ne P.ub P.u0)
  have wr := m3 r.root (root_ne P.ir P.i0) (root_ne P.ur P.u0)
  have wa := m3 a.root (root_ne P.ia P.i0) (root_ne P.ua P.u0)
  have bd := tA d.root
  have br := tA r.root
  have ba := tA a.root
  have bu := tA u
  have bi := tA i
  refine lift_any h i u (par c) 0 d.root p hi hu hq hd i1 u1 hs hk hdn (by omega) hk2 (Ne.symm P.iu) (Ne.symm ig) (Ne.symm ug) ?_ ?_
  · intro W hW
    refine count_at hW u (by rw [l3]; exact hu) ?_ ?_ ?_ ?_ ?_ ?_ ?_
    · rw [g3, l3, m2]; exact hd
    · rw [g3, l3, m2]; show (gt L u).d1 < _; rw [show (gt L u).d1 = r.root from u3]; exact hr
    · rw [g3, m2]; exact root_ne P.ub P.u0
    · rw [g3, m2]; show (gt L u).d1 ≠ _; rw [show (gt L u).d1 = r.root from u3]; exact root_ne P.ur P.u0
    · rw [g3, m2]; show 0 ≤ (C d.root).whole ∧ (C d.root).whole ≤ _; rw [wd]; omega
    · rw [g3, m2]; exact ⟨bu.1, bu.2.1⟩
    · rw [g3, m2]; show 0 ≤ (C (gt L u).d1).whole ∧ (C (gt L u).d1).whole ≤ _; rw [show (gt L u).d1 = r.root from u3, wr]; omega
  · intro W hW
    have l4 : (countL (hangL (hangL (hangL L (par c) p i) i (1 - 0) u) u 0 d.root) u).length = L.length := by rw [countL_len, l3]
    have g4 : gt (countL (hangL (hangL (hangL L (par c) p i) i (1 - 0) u) u 0 d.root) u) = countA C u := by rw [gt_countL (by rw [l3]; exact hu), g3]
    have d1 : countA C u i = C i := countA_ne P.iu
    have d2 : (countA C u u).whole = (gt L d.root).whole + (gt L u).long + (gt L r.root).whole := by
      rw [countA_it, m2]
      show (C d.root).whole + (gt L u).long + (C (gt L u).d1).whole = _
      rw [wd, show (gt L u).d1 = r.root from u3, wr]
    have d3 : (countA C u a.root).whole = (gt L a.root).whole := by rw [countA_ne (root_ne P.ua P.u0)]; exact wa
    refine count_at hW i (by rw [l4]; exact hi) ?_ ?_ ?_ ?_ ?_ ?_ ?_
    · rw [g4, l4, d1, m1]; show (gt L i).d0 < _; rw [show (gt L i).d0 = a.root from i2]; exact ha
    · rw [g4, l4, d1, m1]; exact hu
    · rw [g4, d1, m1]; show (gt L i).d0 ≠ _; rw [show (gt L i).d0 = a.root from i2]; exact root_ne P.ia P.i0
    · rw [g4, d1, m1]; exact Ne.symm P.iu
    · rw [g4, d1, m1]; show 0 ≤ (countA C u (gt L i).d0).whole ∧ (countA C u (gt L i).d0).whole ≤ _; rw [show (gt L i).d0 = a.root from i2, d3]; omega
    · rw [g4, d1, m1]; exact ⟨bi.1, bi.2.1⟩
    · rw [g4, d1, m1]; show 0 ≤ (countA C u u).whole ∧ (countA C u u).whole ≤ _; rw [d2]; omega
set_option maxHeartbeats 4000000 in
theorem lift_rowR {w : World} {b k g cap : Nat} {L : List Th} (h : Things w b k g cap L) {c : List Fr} {a d r : Tr} {i u : Nat} (H : Rep (gt L) 0 (plug (.R r u :: c) (.node a i d))) (P : Apart c a d r i u) (hFit : ∀ x ∈ (plug (.R r u :: c) (.node a i d)).flat, x < L.length) (h0 : 0 < L.length) (W0 : (gt L 0).whole = 0) (HG : c = [] → (gt L 0).d1 = u) (hT : Tame (gt L)) :
    Calls Try.prog 76 #[rP b k, iV (i : Int)] w fun e w' => e = .returned (.tuple #[]) ∧ (∃ L', Things w' b k g cap L' ∧ L'.length = L.length ∧ gt L' = liftA (gt L) i) ∧ Touch (· = g) w w' := by
  obtain ⟨⟨u1, u2, u3, u4, u5, u6⟩, ⟨i1, i2, i3, i4, i5, i6⟩⟩ := (rep_plug (gt L) (.R r u :: c) (.node a i d)).1 H
  have i1 : (gt L i).up = u := i1
  rw [flat_plug] at hFit
  have hi : i < L.length := hFit i (by simp [Tr.flat])
  have hu : u < L.length := hFit u (by simp [cl, cr])
  have hroot : ∀ t : Tr, (∀ x ∈ t.flat, x < L.length) → t.root < L.length := fun t ht => by
    cases t with
    | nil => exact h0
    | node l x y => exact ht x (by simp [Tr.flat])
  have ha : a.root < L.length := hroot a fun x hx => hFit x (by simp [Tr.flat, hx])
  have hd : d.root < L.length := hroot d fun x hx => hFit x (by simp [Tr.flat, hx])
  have hr : r.root < L.length := hroot r fun x hx => hFit x (by simp [cl, cr, hx])
  have hq : par c < L.length := by
    cases c with
    | nil => exact h0
    | cons f c' =>
      have := par_mem (c := f :: c') (by simp)
      refine hFit _ ?_
      simp only [cl, cr, List.mem_append, List.mem_cons] at this ⊢
      rcases this with h | h <;> simp [h]
  obtain ⟨p, hk, hk2, _, _⟩ := side_par u6 u1 P.uc P.u0 HG
  have ig := par_ne P.ic P.i0
  have ug := par_ne P.uc P.u0
  have hs : sideA (gt L) i = 1 := by
    unfold sideA
    rw [i1]
    exact if_pos u3
  have hdn : downA (gt L) i (1 - 1) = a.root := by
    unfold downA
    exact i2
  have hM : Mid (gt L) (hangA (hangA (hangA (gt L) (par c) p i) i 0 u) u 1 a.root) i u { gt L i with up := par c, d0 := u } { gt L u with up := i, d1 := a.root } :=
    mid_back i1 i2 i3 u1 u2 u3 hk hk2 P.iu ig ug P.i0 P.u0 (root_ne P.ir P.i0) (root_ne P.ur P.u0) (root_par P.rc) (root_ne P.ia P.i0) (root_ne P.ua P.u0) (root_par P.ac) (root_ne P.ib P.i0) (root_ne P.ub P.u0) W0
  obtain ⟨m1, m2, m3⟩ := hM
  have l3 : (hangL (hangL (hangL L (par c) p i) i (1 - 1) u) u 1 a.root).length = L.length := by rw [hangL_len, hangL_len, hangL_len]
  have g3 : gt (hangL (hangL (hangL L (par c) p i) i (1 - 1) u) u 1 a.root) = hangA (hangA (hangA (gt L) (par c) p i) i 0 u) u 1 a.root := by
    rw [gt_hangL (by rw [hangL_len, hangL_len]; exact hu) (by rw [hangL_len, hangL_len]; exact ha), gt_hangL (by rw [hangL_len]; exact hi) (by rw [hangL_len]; exact hu), gt_hangL hq hi]
  generalize hC : hangA (hangA (hangA (gt L) (par c) p i) i 0 u) u 1 a.root = C at *
  have tA := fun j => hT j
  have wa := m3 a.root (root_ne P.ia P.i0) (root_ne P.ua P.u0)
  have wr := m3 r.root (root_ne P.ir P.i0) (root_ne P.ur P.u0)
  have wd := m3 d.root (root_ne P.ib P.i0) (root_ne P.ub P.u0)
  have ba := tA a.root
  have br := tA r.root
  have bd := tA d.root
  have bu := tA u
  have bi := tA i
  refine lift_any h i u (par c) 1 a.root p hi hu hq ha i1 u1 hs hk hdn (by omega) hk2 (Ne.symm P.iu) (Ne.symm ig) (Ne.symm ug) ?_ ?_
  · intro W hW
    refine count_at hW u (by rw [l3]; exact hu) ?_ ?_ ?_ ?_ ?_ ?_ ?_
    · rw [g3, l3, m2]; show (gt L u).d0 < _; rw [show (gt L u).d0 = r.root from u2]; exact hr
    · rw [g3, l3, m2]; exact ha
    · rw [g3, m2]; show (gt L u).d0 ≠ _; rw [show (gt L u).d0 = r.root from u2]; exact root_ne P.ur P.u0
    · rw [g3, m2]; exact root_ne P.ua P.u0
    · rw [g3, m2]; show 0 ≤ (C (gt L u).d0).whole ∧ (C (gt L u).d0).whole ≤ _; rw [show (gt L u).d0 = r.root from u2, wr]; omega
    · rw [g3, m2]; exact ⟨bu.1, bu.2.1⟩
    · rw [g3, m2]; show 0 ≤ (C a.root).whole ∧ (C a.root).whole ≤ _; rw [wa]; omega
  · intro W hW
    have l4 : (countL (hangL (hangL (hangL L (par c) p i) i (1 - 1) u) u 1 a.root) u).length = L.length := by rw [countL_len, l3]
    have g4 : gt (countL (hangL (hangL (hangL L (par c) p i) i (1 - 1) u) u 1 a.root) u) = countA C u := by rw [gt_countL (by rw [l3]; exact hu), g3]
    have d1 : countA C u i = C i := countA_ne P.iu
    have d2 : (countA C u u).whole = (gt L r.root).whole + (gt L u).long + (gt L a.root).whole := by
      rw [countA_it, m2]
      show (C (gt L u).d0).whole + (gt L u).long + (C a.root).whole = _
      rw [show (gt L u).d0 = r.root from u2, wr, wa]
    have d3 : (countA C u d.root).whole = (gt L d.root).whole := by rw [countA_ne (root_ne P.ub P.u0)]; exact wd
    refine count_at hW i (by rw [l4]; exact hi) ?_ ?_ ?_ ?_ ?_ ?_ ?_
    · rw [g4, l4, d1, m1]; exact hu
    · rw [g4, l4, d1, m1]; show (gt L i).d1 < _; rw [show (gt L i).d1 = d.root from i3]; exact hd
    · rw [g4, d1, m1]; exact Ne.symm P.iu
    · rw [g4, d1, m1]; show (gt L i).d1 ≠ _; rw [show (gt L i).d1 = d.root from i3]; exact root_ne P.ib P.i0
    · rw [g4, d1, m1]; show 0 ≤ (countA C u u).whole ∧ (countA C u u).whole ≤ _; rw [d2]; omega
    · rw [g4, d1, m1]; exact ⟨bi.1, bi.2.1⟩
    · rw [g4, d1, m1]; show 0 ≤ (countA C u (gt L i).d1).whole ∧ (countA C u (gt L i).d1).whole ≤ _; rw [show (gt L i).d1 = d.root from i3, d3]; omega
end Go.Proofs.Ytcolbgbmnmkogab

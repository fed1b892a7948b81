/- Trees whose nodes are things of an array: lifted, the array says the turned tree. -/
import Derived.Test.YtnilikomoapcaaaGreatPart2
namespace Go.Proofs.YtnilikomoapcaaaGreat
set_option linter.unusedVariables false
set_option linter.unusedSimpArgs false

theorem root_ne {t : Tr} {x : Nat} (h : x ∉ t.flat) (hx : x ≠ 0) : t.root ≠ x := by
  cases t with
  | nil => exact fun e => hx e.symm
  | node l i r => exact fun e => h (by rw [← e]; exact root_mem (by simp))
theorem root_par {t : Tr} {c : List Fr} (h : ∀ x ∈ t.flat, x ∉ cl c ++ cr c) (e : t.root = par c) : t.root = 0 := by
  cases t with
  | nil => rfl
  | node l i r =>
    cases c with
    | nil => exact e
    | cons f c => exact absurd (par_mem (c := f :: c) (by simp)) (by rw [← e]; exact h _ (root_mem (by simp)))
theorem ne_nil_of_root {t : Tr} (h : t.root ≠ 0) : t ≠ .nil := fun e => h (by rw [e]; rfl)
/-- What a list's apartness says. -/
structure Apart (c : List Fr) (a b r : Tr) (i u : Nat) : Prop where
  cc : (cl c ++ cr c).Nodup
  na : a.flat.Nodup
  nb : b.flat.Nodup
  nr : r.flat.Nodup
  iu : i ≠ u
  i0 : i ≠ 0
  u0 : u ≠ 0
  ia : i ∉ a.flat
  ib : i ∉ b.flat
  ir : i ∉ r.flat
  ua : u ∉ a.flat
  ub : u ∉ b.flat
  ur : u ∉ r.flat
  ic : i ∉ cl c ++ cr c
  uc : u ∉ cl c ++ cr c
  ac : ∀ x ∈ a.flat, x ∉ cl c ++ cr c
  bc : ∀ x ∈ b.flat, x ∉ cl c ++ cr c
  rc : ∀ x ∈ r.flat, x ∉ cl c ++ cr c
  ab : ∀ x ∈ a.flat, x ∉ b.flat
  ar : ∀ x ∈ a.flat, x ∉ r.flat
  br : ∀ x ∈ b.flat, x ∉ r.flat
  z : 0 ∉ cl c ++ cr c ∧ 0 ∉ a.flat ∧ 0 ∉ b.flat ∧ 0 ∉ r.flat
theorem apart_of {c : List Fr} {a b r : Tr} {i u : Nat} {l : List Nat} (hp : l.Perm ((cl c ++ cr c) ++ (i :: u :: (a.flat ++ (b.flat ++ r.flat))))) (N : l.Nodup) (Z : 0 ∉ l) : Apart c a b r i u := by
  have N' := hp.nodup_iff.1 N
  have Z' : 0 ∉ (cl c ++ cr c) ++ (i :: u :: (a.flat ++ (b.flat ++ r.flat))) := fun h => Z (hp.mem_iff.2 h)
  obtain ⟨n1, n2, n3⟩ := List.nodup_append.1 N'
  obtain ⟨n4, n5⟩ := List.nodup_cons.1 n2
  obtain ⟨n6, n7⟩ := List.nodup_cons.1 n5
  obtain ⟨n8, n9, n10⟩ := List.nodup_append.1 n7
  obtain ⟨n11, n12, n13⟩ := List.nodup_append.1 n9
  simp only [List.mem_cons, List.mem_append, not_or] at n4 n6 Z'
  refine ⟨n1, n8, n11, n12, n4.1, fun e => Z'.2.1 e.symm, fun e => Z'.2.2.1 e.symm, n4.2.1, n4.2.2.1, n4.2.2.2, n6.1, n6.2.1, n6.2.2, ?_, ?_, ?_, ?_, ?_, ?_, ?_, ?_, ⟨by simp [Z'.1], Z'.2.2.2.1, Z'.2.2.2.2.1, Z'.2.2.2.2.2⟩⟩
  · exact fun h => n3 i h i (by simp) rfl
  · exact fun h => n3 u h u (by simp) rfl
  · exact fun x hx h => n3 x h x (by simp [hx]) rfl
  · exact fun x hx h => n3 x h x (by simp [hx]) rfl
  · exact fun x hx h => n3 x h x (by simp [hx]) rfl
  · exact fun x hx h => n10 x hx x (by simp [h]) rfl
  · exact fun x hx h => n10 x hx x (by simp [h]) rfl
  · exact fun x hx h => n13 x hx x h rfl
/-- The side on which u hangs. -/
theorem side_par {A : Nat → Th} {c : List Fr} {u : Nat} {s : Int} (h : RepC A c u s) (hu : (A u).up = par c) (hc : u ∉ cl c ++ cr c) (u0 : u ≠ 0) (hg : c = [] → (A 0).d1 = u) :
    ∃ k, sideA A u = k ∧ k < 2 ∧ (∀ f c', c = f :: c' → ∀ j : Nat, (A (par c)).put (1 + k) (j : Int) = match f with | .L _ _ => { A (par c) with d0 := j } | .R _ _ => { A (par c) with d1 := j }) ∧ (c = [] → ∀ j : Nat, (A 0).put (1 + k) (j : Int) = { A 0 with d1 := j }) := by
  cases c with
  | nil =>
    refine ⟨1, ?_, by omega, (fun f c' e => by cases e), fun _ j => by simp [Th.put]⟩
    unfold sideA
    rw [hu]
    exact if_pos (hg rfl)
  | cons f c =>
    cases f with
    | L g r =>
      refine ⟨0, ?_, by omega, (fun f c' e j => by simp only [List.cons.injEq] at e; obtain ⟨rfl, rfl⟩ := e; simp [Th.put]), fun e => by cases e⟩
      unfold sideA
      rw [hu]
      have : (A g).d1 = r.root := h.2.2.1
      show (if (A g).d1 = u then 1 else 0) = 0
      rw [this, if_neg (root_ne (fun h => hc (by simp [cl, cr, h])) u0)]
    | R l g =>
      refine ⟨1, ?_, by omega, (fun f c' e j => by simp only [List.cons.injEq] at e; obtain ⟨rfl, rfl⟩ := e; simp [Th.put]), fun e => by cases e⟩
      unfold sideA
      rw [hu]
      exact if_pos h.2.2.1
theorem par_ne {c : List Fr} {x : Nat} (h : x ∉ cl c ++ cr c) (h0 : x ≠ 0) : x ≠ par c := by
  cases c with
  | nil => exact h0
  | cons f c => exact fun e => h (by rw [e]; exact par_mem (by simp))
theorem put_long (t : Th) (k : Nat) (hk : k < 2) (j : Int) : (t.put (1 + k) j).long = t.long := by
  match k, hk with
  | 0, _ => rfl
  | 1, _ => rfl
/-- i on the front of u, lifted. -/
theorem lift_repL {A : Nat → Th} {c : List Fr} {a b r : Tr} {i u : Nat} (H : Rep A 0 (plug (.L u r :: c) (.node a i b))) (P : Apart c a b r i u) (W0 : (A 0).whole = 0) (HG : c = [] → (A 0).d1 = u) :
    Rep (liftA A i) 0 (plug c (.node a i (.node b u r))) ∧ liftA A i 0 = (if c = [] then { A 0 with d1 := i } else A 0) ∧ (∀ j, j ∉ (cl c ++ cr c) → j ≠ i → j ≠ u → j ∉ b.flat → j ≠ 0 → liftA A i j = A j) ∧ ∀ j, (liftA A i j).long = (A j).long := by
  obtain ⟨⟨u1, u2, u3, u4, u5, u6⟩, ⟨i1, i2, i3, i4, i5, i6⟩⟩ := (rep_plug A (.L u r :: c) (.node a i b)).1 H
  have i1 : (A i).up = u := i1
  obtain ⟨k, hk, hk2, hk3, hk4⟩ := side_par u6 u1 P.uc P.u0 HG
  have ig := par_ne P.ic P.i0
  have ug := par_ne P.uc P.u0
  obtain ⟨L1, L2, L3, L4, L5⟩ := lift_front i1 i2 i3 u1 u3 hk hk2 P.iu ig ug P.i0 P.u0 (root_ne P.ir P.i0) (root_ne P.ur P.u0) (root_par P.rc) (root_ne P.ib P.i0) (root_ne P.ub P.u0) (root_par P.bc)
    (fun e => by
      cases b with
      | nil => rfl
      | node l x y =>
        cases r with
        | nil => exact e
        | node l' x' y' => exact absurd (root_mem (t := .node l' x' y') (by simp)) (by rw [← e]; exact P.br _ (root_mem (by simp))))
    (root_ne P.ia P.i0) (root_ne P.ua P.u0) (root_par P.ac)
    (fun e => by
      cases a with
      | nil => rfl
      | node l x y =>
        cases b with
        | nil => exact e
        | node l' x' y' => exact absurd (root_mem (t := .node l' x' y') (by simp)) (by rw [← e]; exact P.ab _ (root_mem (by simp)))) W0
  have wa := i5.whole W0
  have wb := i6.whole W0
  have wr := u5.whole W0
  have hlong : ∀ j, (liftA A i j).long = (A j).long := fun j => by
    by_cases h1 : j = i
    · rw [h1, L1]
    by_cases h2 : j = u
    · rw [h2, L2]
    by_cases h3 : j = par c
    · rw [h3, L4, put_long _ k hk2]
    by_cases h4 : b.root ≠ 0 ∧ j = b.root
    · rw [h4.2, L3 h4.1]
    · rw [L5 j h1 h2 h3 (fun h e => h4 ⟨h, e⟩)]
  have hsum : ∀ t : Tr, t.sum (liftA A i) = t.sum A := fun t => Tr.sum_congr fun j _ => hlong j
  have hkeep : ∀ t : Tr, (∀ x ∈ t.flat, x ≠ i ∧ x ≠ u ∧ x ∉ cl c ++ cr c ∧ x ∉ b.flat ∧ x ≠ 0) → ∀ x ∈ t.flat, A x = liftA A i x := fun t ht x hx => by
    obtain ⟨h1, h2, h3, h4, h5⟩ := ht x hx
    exact (L5 x h1 h2 (par_ne h3 h5) (fun h e => h4 (by rw [e]; exact root_mem (ne_nil_of_root h)))).symm
  refine ⟨(rep_plug _ c _).2 ⟨?_, ?_⟩, ?_, ?_, hlong⟩
  · rw [hsum]
    have e : (Tr.node a i (.node b u r)).sum A = a.sum A + (A i).long + b.sum A + (A u).long + r.sum A := by simp only [Tr.sum]; omega
    rw [e]
    refine RepC.hung (i := u) u6 P.cc (fun f c' hc => ?_) (fun x hx hxp => ?_)
    · rw [L4]
      exact hk3 f c' hc i
    · have hxi : x ≠ i := fun e => P.ic (e ▸ hx)
      have hxu : x ≠ u := fun e => P.uc (e ▸ hx)
      exact (L5 x hxi hxu hxp (fun h e => P.bc x (by rw [e]; exact root_mem (ne_nil_of_root h)) hx)).symm
  · refine ⟨by rw [L1], by rw [L1]; exact i2, by rw [L1]; rfl, ?_, ?_, ?_, ?_, ?_, ?_, ?_, ?_⟩
    · rw [L1, hsum, hsum, wa, wb, wr]
      rfl
    · exact Rep.congr (hkeep a fun x hx => ⟨fun e => P.ia (e ▸ hx), fun e => P.ua (e ▸ hx), P.ac x hx, P.ab x hx, fun e => P.z.2.1 (e ▸ hx)⟩) i5
    · rw [L2]
    · rw [L2]
    · rw [L2]; exact u3
    · rw [L2, hsum, hsum, wb, wr]
    · refine i6.hung P.nb (fun hb => ?_) (fun x hx hxr => ?_)
      · exact L3 (fun e => P.z.2.2.1 (by rw [← e]; exact root_mem hb))
      · have hxi : x ≠ i := fun e => P.ib (e ▸ hx)
        have hxu : x ≠ u := fun e => P.ub (e ▸ hx)
        have hx0 : x ≠ 0 := fun e => P.z.2.2.1 (e ▸ hx)
        exact (L5 x hxi hxu (par_ne (P.bc x hx) hx0) (fun _ => hxr)).symm
    · exact Rep.congr (hkeep r fun x hx => ⟨fun e => P.ir (e ▸ hx), fun e => P.ur (e ▸ hx), P.rc x hx, fun h => P.br x h hx, fun e => P.z.2.2.2 (e ▸ hx)⟩) u5
  · by_cases hc : c = []
    · rw [if_pos hc]
      have : par c = 0 := by rw [hc]; rfl
      rw [this] at L4
      rw [L4]
      exact hk4 hc i
    · rw [if_neg hc]
      have h0 : (0 : Nat) ≠ par c := fun e => P.z.1 (by rw [e]; exact par_mem hc)
      exact L5 0 (Ne.symm P.i0) (Ne.symm P.u0) h0 (fun h e => h e.symm)
  · intro j h1 h2 h3 h4 h5
    exact L5 j h2 h3 (par_ne h1 h5) (fun h e => h4 (by rw [e]; exact root_mem (ne_nil_of_root h)))
/-- i on the back of u, lifted. -/
theorem lift_repR {A : Nat → Th} {c : List Fr} {a b r : Tr} {i u : Nat} (H : Rep A 0 (plug (.R r u :: c) (.node a i b))) (P : Apart c a b r i u) (W0 : (A 0).whole = 0) (HG : c = [] → (A 0).d1 = u) :
    Rep (liftA A i) 0 (plug c (.node (.node r u a) i b)) ∧ liftA A i 0 = (if c = [] then { A 0 with d1 := i } else A 0) ∧ (∀ j, j ∉ (cl c ++ cr c) → j ≠ i → j ≠ u → j ∉ a.flat → j ≠ 0 → liftA A i j = A j) ∧ ∀ j, (liftA A i j).long = (A j).long := by
  obtain ⟨⟨u1, u2, u3, u4, u5, u6⟩, ⟨i1, i2, i3, i4, i5, i6⟩⟩ := (rep_plug A (.R r u :: c) (.node a i b)).1 H
  have i1 : (A i).up = u := i1
  have u3 : (A u).d1 = i := u3
  obtain ⟨k, hk, hk2, hk3, hk4⟩ := side_par u6 u1 P.uc P.u0 HG
  have ig := par_ne P.ic P.i0
  have ug := par_ne P.uc P.u0
  obtain ⟨L1, L2, L3, L4, L5⟩ := lift_back i1 i2 i3 u1 u2 u3 hk hk2 P.iu ig ug P.i0 P.u0 (root_ne P.ir P.i0) (root_ne P.ur P.u0) (root_par P.rc) (root_ne P.ia P.i0) (root_ne P.ua P.u0) (root_par P.ac) (root_ne P.ib P.i0) (root_ne P.ub P.u0) W0
  have wa := i5.whole W0
  have wb := i6.whole W0
  have wr := u5.whole W0
  have hlong : ∀ j, (liftA A i j).long = (A j).long := fun j => by
    by_cases h1 : j = i
    · rw [h1, L1]
    by_cases h2 : j = u
    · rw [h2, L2]
    by_cases h3 : j = par c
    · rw [h3, L4, put_long _ k hk2]
    by_cases h4 : a.root ≠ 0 ∧ j = a.root
    · rw [h4.2, L3 h4.1]
    · rw [L5 j h1 h2 h3 (fun h e => h4 ⟨h, e⟩)]
  have hsum : ∀ t : Tr, t.sum (liftA A i) = t.sum A := fun t => Tr.sum_congr fun j _ => hlong j
  have hkeep : ∀ t : Tr, (∀ x ∈ t.flat, x ≠ i ∧ x ≠ u ∧ x ∉ cl c ++ cr c ∧ x ∉ a.flat ∧ x ≠ 0) → ∀ x ∈ t.flat, A x = liftA A i x := fun t ht x hx => by
    obtain ⟨h1, h2, h3, h4, h5⟩ := ht x hx
    exact (L5 x h1 h2 (par_ne h3 h5) (fun h e => h4 (by rw [e]; exact root_mem (ne_nil_of_root h)))).symm
  refine ⟨(rep_plug _ c _).2 ⟨?_, ?_⟩, ?_, ?_, hlong⟩
  · rw [hsum]
    have e : (Tr.node (.node r u a) i b).sum A = r.sum A + (A u).long + (a.sum A + (A i).long + b.sum A) := by simp only [Tr.sum]; omega
    rw [e]
    refine RepC.hung (i := u) u6 P.cc (fun f c' hc => ?_) (fun x hx hxp => ?_)
    · rw [L4]
      exact hk3 f c' hc i
    · have hxi : x ≠ i := fun e => P.ic (e ▸ hx)
      have hxu : x ≠ u := fun e => P.uc (e ▸ hx)
      exact (L5 x hxi hxu hxp (fun h e => P.ac x (by rw [e]; exact root_mem (ne_nil_of_root h)) hx)).symm
  · refine ⟨by rw [L1], by rw [L1]; rfl, by rw [L1]; exact i3, ?_, ⟨?_, ?_, ?_, ?_, ?_, ?_⟩, ?_⟩
    · rw [L1, hsum, hsum, wa, wb, wr]
      rfl
    · rw [L2]
    · rw [L2]; exact u2
    · rw [L2]
    · rw [L2, hsum, hsum, wa, wr]
    · exact Rep.congr (hkeep r fun x hx => ⟨fun e => P.ir (e ▸ hx), fun e => P.ur (e ▸ hx), P.rc x hx, fun h => P.ar x h hx, fun e => P.z.2.2.2 (e ▸ hx)⟩) u5
    · refine i5.hung P.na (fun ha => ?_) (fun x hx hxr => ?_)
      · exact L3 (fun e => P.z.2.1 (by rw [← e]; exact root_mem ha))
      · have hxi : x ≠ i := fun e => P.ia (e ▸ hx)
        have hxu : x ≠ u := fun e => P.ua (e ▸ hx)
        have hx0 : x ≠ 0 := fun e => P.z.2.1 (e ▸ hx)
        exact (L5 x hxi hxu (par_ne (P.ac x hx) hx0) (fun _ => hxr)).symm
    · exact Rep.congr (hkeep b fun x hx => ⟨fun e => P.ib (e ▸ hx), fun e => P.ub (e ▸ hx), P.bc x hx, fun h => P.ab x h hx, fun e => P.z.2.2.1 (e ▸ hx)⟩) i6
  · by_cases hc : c = []
    · rw [if_pos hc]
      have : par c = 0 := by rw [hc]; rfl
      rw [this] at L4
      rw [L4]
      exact hk4 hc i
    · rw [if_neg hc]
      have h0 : (0 : Nat) ≠ par c := fun e => P.z.1 (by rw [e]; exact par_mem hc)
      exact L5 0 (Ne.symm P.i0) (Ne.symm P.u0) h0 (fun h e => h e.symm)
  · intro j h1 h2 h3 h4 h5
    exact L5 j h2 h3 (par_ne h1 h5) (fun h e => h4 (by rw [e]; exact root_mem (ne_nil_of_root h)))
end Go.Proofs.YtnilikomoapcaaaGreat

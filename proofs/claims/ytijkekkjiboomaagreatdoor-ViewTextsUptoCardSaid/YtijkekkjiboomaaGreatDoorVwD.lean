/- Views: what two lists begin and end with (no Go in it). -/
import Derived.Test.YtijkekkjiboomaaGreatDoorVwC
namespace Go.Proofs.YtijkekkjiboomaaGreatDoor
open Go.RowKit
set_option linter.unusedVariables false
set_option linter.unusedSimpArgs false

section
variable {α : Type}
/-- Both begin with n alike ones, and not with more. -/
structure IsLcp (x y : List α) (n : Nat) : Prop where
  lx : n ≤ x.length
  ly : n ≤ y.length
  eq : x.take n = y.take n
  ne : ∀ (h1 : n < x.length) (h2 : n < y.length), x[n] ≠ y[n]
theorem IsLcp.uniq {x y : List α} {n m : Nat} (h : IsLcp x y n) (k : IsLcp x y m) : n = m := by
  have key : ∀ {n m : Nat}, IsLcp x y n → IsLcp x y m → ¬ n < m := fun {n m} h k hlt => by
    have h1 : n < x.length := Nat.lt_of_lt_of_le hlt k.lx
    have h2 : n < y.length := Nat.lt_of_lt_of_le hlt k.ly
    refine h.ne h1 h2 ?_
    have e : (x.take m)[n]? = (y.take m)[n]? := by rw [k.eq]
    rw [List.getElem?_take_of_lt hlt, List.getElem?_take_of_lt hlt, List.getElem?_eq_getElem h1, List.getElem?_eq_getElem h2] at e
    exact Option.some.inj e
  have := key h k
  have := key k h
  omega
theorem IsLcp.nil_left (y : List α) : IsLcp [] y 0 := ⟨Nat.le_refl _, Nat.zero_le _, by simp, fun h => absurd h (Nat.lt_irrefl _)⟩
theorem IsLcp.nil_right (x : List α) : IsLcp x [] 0 := ⟨Nat.zero_le _, Nat.le_refl _, by simp, fun _ h => absurd h (Nat.lt_irrefl _)⟩
theorem IsLcp.pre (u : List α) {x y : List α} {n : Nat} (h : IsLcp x y n) : IsLcp (u ++ x) (u ++ y) (u.length + n) := by
  refine ⟨by rw [List.length_append]; have := h.lx; omega, by rw [List.length_append]; have := h.ly; omega, ?_, fun h1 h2 => ?_⟩
  · rw [List.take_append, List.take_append, List.take_of_length_le (by omega), Nat.add_sub_cancel_left, h.eq]
  · rw [List.getElem_append_right (by omega), List.getElem_append_right (by omega)]
    have e : u.length + n - u.length = n := by omega
    simp only [e]
    rw [List.length_append] at h1 h2
    exact h.ne (by omega) (by omega)
theorem IsLcp.stop {u v : List α} {n : Nat} (h : IsLcp u v n) (hu : n < u.length) (hv : n < v.length) (x y : List α) : IsLcp (u ++ x) (v ++ y) n := by
  refine ⟨by rw [List.length_append]; omega, by rw [List.length_append]; omega, ?_, fun h1 h2 => ?_⟩
  · rw [List.take_append_of_le_length (by omega), List.take_append_of_le_length (by omega), h.eq]
  · rw [List.getElem_append_left hu, List.getElem_append_left hv]
    exact h.ne hu hv
theorem IsLcp.symm {x y : List α} {n : Nat} (h : IsLcp x y n) : IsLcp y x n := ⟨h.ly, h.lx, h.eq.symm, fun h1 h2 e => h.ne h2 h1 e.symm⟩
theorem IsLcp.map {β : Type} {f : α → β} (hf : ∀ a b, f a = f b → a = b) {x y : List α} {n : Nat} (h : IsLcp x y n) : IsLcp (x.map f) (y.map f) n := by
  refine ⟨by simpa using h.lx, by simpa using h.ly, by rw [← List.map_take, ← List.map_take, h.eq], fun h1 h2 e => ?_⟩
  rw [List.getElem_map, List.getElem_map] at e
  exact h.ne (by simpa using h1) (by simpa using h2) (hf _ _ e)
/-- What stands behind so many others decides. -/
theorem IsLcp.short {u v x y : List α} (h : u <+: v) (hlt : u.length < v.length) (hx : ∀ a, x.head? = some a → ∀ (k : u.length < v.length), a ≠ v[u.length]) : IsLcp (u ++ x) (v ++ y) u.length := by
  obtain ⟨t, rfl⟩ := h
  refine ⟨by simp, by simp, by simp, fun h1 h2 e => ?_⟩
  rw [List.getElem_append_right (Nat.le_refl _)] at e
  cases x with
  | nil => simp at h1
  | cons a x =>
    refine hx a rfl hlt ?_
    rw [List.getElem_append_left hlt] at e
    simpa using e
end
def lcpN : List Nat → List Nat → Nat
  | a :: x, b :: y => if a = b then lcpN x y + 1 else 0
  | _, _ => 0
theorem lcpN_is : ∀ (x y : List Nat), IsLcp x y (lcpN x y)
  | [], y => by cases y <;> exact IsLcp.nil_left _
  | a :: x, [] => IsLcp.nil_right _
  | a :: x, b :: y => by
    unfold lcpN
    by_cases h : a = b
    · rw [if_pos h]
      subst h
      have := (lcpN_is x y).pre [a]
      simpa [Nat.add_comm] using this
    · rw [if_neg h]
      exact ⟨Nat.zero_le _, Nat.zero_le _, by simp, fun _ _ e => h (by simpa using e)⟩
/-- How many units both runs begin with. -/
def alU (a b : Rn) : Nat := if canJ a b = true then lcpN a.rs b.rs else if ((a.em && b.em) && ((refCmp a.v b.v == 0) && sameL a.ml b.ml)) = true then 1 else 0
/-- How many units both lists begin with. -/
def alA : List Rn → List Rn → Nat
  | a :: A, b :: B => if alU a b < max a.len b.len then alU a b else alU a b + alA A B
  | _, _ => 0
theorem prefix_of_take {x y : List Nat} {n : Nat} (h : IsLcp x y n) (e : n = x.length) : x <+: y := by
  have := h.eq
  rw [e, List.take_length] at this
  rw [this]; exact List.take_prefix _ _
theorem alU_text {a b : Rn} {U W : List Un} (ha : a.em = false) (hb : b.em = false) (hm : a.ml = b.ml) (hU : ∀ u, U.head? = some u → ¬ (u.em = false ∧ u.ml = a.ml)) (hW : ∀ u, W.head? = some u → ¬ (u.em = false ∧ u.ml = a.ml)) (hk : lcpN a.rs b.rs < max a.len b.len) :
    IsLcp (a.us ++ U) (b.us ++ W) (lcpN a.rs b.rs) := by
  have hl := lcpN_is a.rs b.rs
  have e1 : a.us = a.rs.map fun c => ⟨false, c, vz, a.ml⟩ := by unfold Rn.us; rw [if_neg (by rw [ha]; simp)]
  have e2 : b.us = b.rs.map fun c => ⟨false, c, vz, a.ml⟩ := by unfold Rn.us; rw [if_neg (by rw [hb]; simp), hm]
  have l1 : a.len = a.rs.length := by unfold Rn.len; rw [if_neg (by rw [ha]; simp)]
  have l2 : b.len = b.rs.length := by unfold Rn.len; rw [if_neg (by rw [hb]; simp)]
  have hinj : ∀ c d : Nat, (⟨false, c, vz, a.ml⟩ : Un) = ⟨false, d, vz, a.ml⟩ → c = d := fun c d h => by simpa using h
  rw [l1, l2] at hk
  have b1 := hl.lx
  have b2 := hl.ly
  rw [e1, e2]
  by_cases q1 : lcpN a.rs b.rs < a.rs.length
  · by_cases q2 : lcpN a.rs b.rs < b.rs.length
    · exact (hl.map hinj).stop (by simpa using q1) (by simpa using q2) _ _
    · have e : lcpN a.rs b.rs = b.rs.length := by omega
      have hp := prefix_of_take hl.symm e
      obtain ⟨t, ht⟩ := hp
      have := (IsLcp.short (u := b.rs.map fun c => (⟨false, c, vz, a.ml⟩ : Un)) (v := a.rs.map fun c => ⟨false, c, vz, a.ml⟩) (x := W) (y := U) ⟨t.map _, by rw [← List.map_append, ht]⟩ (by simp; omega) fun u hu k eq => hW u hu (by rw [eq]; simp)).symm
      rw [e]
      simpa using this
  · have e : lcpN a.rs b.rs = a.rs.length := by omega
    obtain ⟨t, ht⟩ := prefix_of_take hl e
    have := (IsLcp.short (u := a.rs.map fun c => (⟨false, c, vz, a.ml⟩ : Un)) (v := b.rs.map fun c => ⟨false, c, vz, a.ml⟩) (x := U) (y := W) ⟨t.map _, by rw [← List.map_append, ht]⟩ (by simp; omega) fun u hu k eq => hU u hu (by rw [eq]; simp))
    rw [e]
    simpa using this
theorem fix_parts {r : Rn} (h : r.nrm = r) : vClean r.v = r.v ∧ r.ml.map mkN = r.ml := ⟨congrArg Rn.v h, congrArg Rn.ml h⟩
theorem Cn.tail {r : Rn} {l : List Rn} {us : List Un} (h : Cn (r :: l) us) : Cn l (unitsV l) := ⟨h.cf.tail, fun x hx => h.ok x (List.mem_cons_of_mem _ hx), rfl⟩
theorem canJ_iff {a b : Rn} (ha : a.Dbl) (hb : b.Dbl) (fa : a.nrm = a) (fb : b.nrm = b) : canJ a b = true ↔ (a.em = false ∧ b.em = false ∧ a.ml = b.ml) := by
  unfold canJ
  rw [Bool.and_eq_true, Bool.and_eq_true, sameL_iff _ _ ha.m hb.m, (fix_parts fa).2, (fix_parts fb).2]
  simp [and_assoc]
theorem alU_zero {a b : Rn} (oa : a.Ok ∧ a.Dbl ∧ a.nrm = a) (ob : b.Ok ∧ b.Dbl ∧ b.nrm = b) (h1 : ¬ canJ a b = true) (h2 : ¬ ((a.em && b.em) && ((refCmp a.v b.v == 0) && sameL a.ml b.ml)) = true) (pa : 0 < a.len) (pb : 0 < b.len) (U W : List Un) : IsLcp (a.us ++ U) (b.us ++ W) 0 := by
  obtain ⟨u, t, e, -, -⟩ := us_head pa
  obtain ⟨u', t', e', -, -⟩ := us_head pb
  refine ⟨Nat.zero_le _, Nat.zero_le _, by simp, fun k1 k2 eq => ?_⟩
  simp only [e, e', List.cons_append, List.getElem_cons_zero] at eq
  subst eq
  rw [canJ_iff oa.2.1 ob.2.1 oa.2.2 ob.2.2] at h1
  have hv : (refCmp a.v b.v == 0) = true ↔ a.v = b.v := by
    rw [beq_iff_eq, refCmp_clean _ _ oa.2.1.v ob.2.1.v, (fix_parts oa.2.2).1, (fix_parts ob.2.2).1]
  rw [Bool.and_eq_true, Bool.and_eq_true, Bool.and_eq_true, hv, sameL_iff _ _ oa.2.1.m ob.2.1.m, (fix_parts oa.2.2).2, (fix_parts ob.2.2).2] at h2
  have hh : ∀ (x : Rn) (s : List Un), x.us = u :: s → (x.em = true ∧ u = ⟨true, 0, x.v, x.ml⟩) ∨ (x.em = false ∧ u.em = false ∧ u.ml = x.ml) := fun x s hs => by
    unfold Rn.us at hs
    by_cases he : x.em = true
    · rw [if_pos he] at hs
      simp only [List.cons.injEq] at hs
      exact .inl ⟨he, hs.1.symm⟩
    · rw [if_neg he] at hs
      cases hr : x.rs with
      | nil => rw [hr] at hs; cases hs
      | cons c r =>
        rw [hr] at hs
        simp only [List.map_cons, List.cons.injEq] at hs
        exact .inr ⟨by simpa using he, by rw [← hs.1], by rw [← hs.1]⟩
  rcases hh a t e with ⟨a1, a2⟩ | ⟨a1, a2, a3⟩
  · rcases hh b t' e' with ⟨b1, b2⟩ | ⟨b1, b2, b3⟩
    · rw [a2] at b2
      simp only [Un.mk.injEq, true_and] at b2
      exact h2 ⟨⟨a1, b1⟩, b2.1, b2.2⟩
    · rw [a2] at b2; cases b2
  · rcases hh b t' e' with ⟨b1, b2⟩ | ⟨b1, b2, b3⟩
    · rw [b2] at a2; cases a2
    · exact h1 ⟨a1, b1, a3.symm.trans b3⟩
/-- Of two lists in their form alikeAhead tells how many units both begin with. -/
theorem alA_is : ∀ {A B : List Rn} {us vs : List Un}, Cn A us → Cn B vs → IsLcp us vs (alA A B)
  | [], B, us, vs, hA, hB => by
    rw [← hA.un]
    cases B <;> exact IsLcp.nil_left _
  | a :: A, [], us, vs, hA, hB => by
    rw [← hB.un]
    exact IsLcp.nil_right _
  | a :: A, b :: B, us, vs, hA, hB => by
    have ih := alA_is hA.tail hB.tail
    have oa := hA.ok a (by simp)
    have ob := hB.ok b (by simp)
    have pa := hA.cf.full a (by simp)
    have pb := hB.cf.full b (by simp)
    rw [← hA.un, ← hB.un, unitsV_cons, unitsV_cons]
    unfold alA
    unfold alU
    by_cases hc : canJ a b = true
    · rw [if_pos hc]
      obtain ⟨c1, c2, c3⟩ := (canJ_iff oa.2.1 ob.2.1 oa.2.2 ob.2.2).1 hc
      have hu := hA.cf.head c1
      have hw := hB.cf.head c2
      rw [← c3] at hw
      by_cases hk : lcpN a.rs b.rs < max a.len b.len
      · rw [if_pos hk]
        exact alU_text c1 c2 c3 hu hw hk
      · rw [if_neg hk]
        have hl := lcpN_is a.rs b.rs
        have l1 : a.len = a.rs.length := by unfold Rn.len; rw [if_neg (by rw [c1]; simp)]
        have l2 : b.len = b.rs.length := by unfold Rn.len; rw [if_neg (by rw [c2]; simp)]
        have b1 := hl.lx
        have b2 := hl.ly
        have e1 : lcpN a.rs b.rs = a.rs.length := by omega
        have e2 : a.rs.length = b.rs.length := by omega
        have er : a.rs = b.rs := by
          have := hl.eq
          rw [e1, List.take_length, e2, List.take_length] at this
          exact this
        have eab := oa.1.ext ob.1 c1 c2 er c3
        subst eab
        rw [e1, ← l1, ← us_len]
        exact ih.pre _
    · rw [if_neg hc]
      by_cases hd : ((a.em && b.em) && ((refCmp a.v b.v == 0) && sameL a.ml b.ml)) = true
      · rw [if_pos hd]
        have hd' := hd
        rw [Bool.and_eq_true, Bool.and_eq_true, Bool.and_eq_true, beq_iff_eq, refCmp_clean _ _ oa.2.1.v ob.2.1.v, (fix_parts oa.2.2).1, (fix_parts ob.2.2).1, sameL_iff _ _ oa.2.1.m ob.2.1.m, (fix_parts oa.2.2).2, (fix_parts ob.2.2).2] at hd'
        have l1 : a.len = 1 := by unfold Rn.len; rw [if_pos hd'.1.1]
        have l2 : b.len = 1 := by unfold Rn.len; rw [if_pos hd'.1.2]
        rw [if_neg (by omega)]
        have e1 : a.us = [⟨true, 0, a.v, a.ml⟩] := by unfold Rn.us; rw [if_pos hd'.1.1]
        have e2 : b.us = [⟨true, 0, a.v, a.ml⟩] := by unfold Rn.us; rw [if_pos hd'.1.2, hd'.2.1, hd'.2.2]
        rw [e1, e2]
        have := ih.pre [(⟨true, 0, a.v, a.ml⟩ : Un)]
        simpa using this
      · rw [if_neg hd, if_pos (by omega)]
        exact alU_zero oa ob hc hd pa pb _ _
/-- A list from its end on. -/
def bwR (r : Rn) : Rn := ⟨strOf (encAll r.rs.reverse), r.em, r.v, r.ml⟩
def bwP (l : List Rn) : List Rn := l.reverse.map bwR
theorem bwR_rs (r : Rn) : runesOf (bwR r).tx.data.toList = some r.rs.reverse := by
  show runesOf (strOf (encAll r.rs.reverse)).data.toList = _
  rw [strOf_list]
  exact runesOf_enc _ fun c hc => rsOf_ok _ _ (List.mem_reverse.1 hc)
theorem bwR_us (r : Rn) : (bwR r).us = r.us.reverse := by
  unfold Rn.us
  show (if r.em = true then _ else (rsOf (bwR r).tx.data.toList).map _) = _
  rw [rsOf_some (bwR_rs r)]
  split
  · rfl
  · rw [List.map_reverse]; rfl
theorem bwP_us (l : List Rn) : unitsV (bwP l) = (unitsV l).reverse := by
  unfold bwP
  induction l with
  | nil => rfl
  | cons r l ih => rw [List.reverse_cons, List.map_append, unitsV_append, ih, List.map_cons, List.map_nil, unitsV_one, unitsV_cons, List.reverse_append, bwR_us]
theorem bwP_cn {l : List Rn} {us : List Un} (h : Cn l us) : Cn (bwP l) us.reverse := by
  have hl : ∀ r, (bwR r).len = r.len := fun r => by rw [← us_len, bwR_us, List.length_reverse, us_len]
  refine ⟨⟨fun r hr => ?_, fun a b pre post e => ?_⟩, fun r hr => ?_, by rw [bwP_us, h.un]⟩
  · obtain ⟨x, hx, rfl⟩ := List.mem_map.1 hr
    rw [hl]; exact h.cf.full x (List.mem_reverse.1 hx)
  · unfold bwP at e
    obtain ⟨p1, p2, e1, e2, e3⟩ := List.map_eq_append_iff.1 e
    obtain ⟨a', q1, e4, e5, e6⟩ := List.map_eq_cons_iff.1 e3
    obtain ⟨b', q2, e7, e8, e9⟩ := List.map_eq_cons_iff.1 e6
    have e10 : l = q2.reverse ++ b' :: a' :: p1.reverse := by
      have := congrArg List.reverse e1
      rw [List.reverse_reverse, e4, e7] at this
      rw [this]; simp
    have := h.cf.apart b' a' _ _ e10
    rw [← e5, ← e8]
    intro q
    exact this ⟨q.2.1, q.1, q.2.2.symm⟩
  · obtain ⟨x, hx, rfl⟩ := List.mem_map.1 hr
    obtain ⟨o1, o2, o3⟩ := h.ok x (List.mem_reverse.1 hx)
    have k1 : (bwR x).Ok := ⟨fun q => ?_, fun q => ⟨(o1.t q).1, by rw [bwR_rs]; rfl⟩⟩
    · refine ⟨k1, ⟨o2.v, o2.m⟩, ?_⟩
      show Rn.mk _ x.em (vClean x.v) (x.ml.map mkN) = _
      rw [(fix_parts o3).1, (fix_parts o3).2]; rfl
    · have q' : x.em = true := q
      have e1 := o1.e q'
      show strOf (encAll x.rs.reverse) = _
      have : x.rs = [] := by show rsOf x.tx.data.toList = []; rw [e1]; rfl
      rw [this]; rfl
/-- The units that the two lists part with: at, and how many they end with. -/
structure IsDiff (X Y : List Un) (at_ en : Nat) : Prop where
  a : IsLcp X Y at_
  e : IsLcp (X.drop at_).reverse (Y.drop at_).reverse en
theorem IsDiff.uniq {X Y : List Un} {a e a' e' : Nat} (h : IsDiff X Y a e) (k : IsDiff X Y a' e') : a = a' ∧ e = e' := by
  obtain rfl := h.a.uniq k.a
  exact ⟨rfl, h.e.uniq k.e⟩
/-- What both end with. -/
theorem IsDiff.ends {X Y : List Un} {a e : Nat} (h : IsDiff X Y a e) : e ≤ X.length - a ∧ e ≤ Y.length - a ∧ X.drop (X.length - e) = Y.drop (Y.length - e) := by
  have h1 := h.e.lx
  have h2 := h.e.ly
  rw [List.length_reverse, List.length_drop] at h1 h2
  refine ⟨h1, h2, ?_⟩
  have h3 := h.e.eq
  rw [List.take_reverse, List.take_reverse, List.reverse_inj, List.length_drop, List.length_drop, List.drop_drop, List.drop_drop] at h3
  have b1 := h.a.lx
  have b2 := h.a.ly
  have e1 : a + (X.length - a - e) = X.length - e := by omega
  have e2 : a + (Y.length - a - e) = Y.length - e := by omega
  rwa [e1, e2] at h3
/-- Patched so, the one is the other. -/
theorem IsDiff.patch {X Y : List Un} {a e : Nat} (h : IsDiff X Y a e) : X.take a ++ ((Y.drop a).take (Y.length - a - e)) ++ X.drop (a + (X.length - a - e)) = Y := by
  obtain ⟨h1, h2, h3⟩ := h.ends
  have b1 := h.a.lx
  have b2 := h.a.ly
  have e1 : a + (X.length - a - e) = X.length - e := by omega
  rw [e1, h3, h.a.eq]
  have e2 : Y.drop (Y.length - e) = (Y.drop a).drop (Y.length - a - e) := by
    rw [List.drop_drop]
    congr 1; omega
  rw [e2, List.append_assoc, List.take_append_drop, List.take_append_drop]
/-- The program's Diff. -/
def dfA (a b : List Rn) : Nat := alA (cleanP a) (cleanP b)
def dfX (a b : List Rn) : List Rn := cutP (cleanP a) (dfA a b) (lenL (cleanP a))
def dfY (a b : List Rn) : List Rn := cutP (cleanP b) (dfA a b) (lenL (cleanP b))
def dfE (a b : List Rn) : Nat := alA (bwP (dfX a b)) (bwP (dfY a b))
def dfL (a b : List Rn) : List Rn := cutP (dfY a b) 0 ((lenL (dfY a b) : Int) - dfE a b)
theorem cut_all {A : List Rn} {us : List Un} (h : Cn A us) (n : Nat) : Cn (cutP A n (lenL A)) (us.drop n) := by
  have h1 := cutP_cn h.okL n (lenL A)
  rw [h.nrmU, List.take_of_length_le (by rw [h.len]; omega)] at h1
  simpa using h1
theorem dfP_is {a b : List Rn} (ha : OkL a) (hb : OkL b) : IsDiff (nrmU a) (nrmU b) (dfA a b) (dfE a b) ∧ lenL (dfX a b) = (nrmU a).length - dfA a b ∧ Cn (dfL a b) (((nrmU b).drop (dfA a b)).take ((nrmU b).length - dfA a b - dfE a b)) := by
  have ca := cleanP_cn ha
  have cb := cleanP_cn hb
  have cx : Cn (dfX a b) ((nrmU a).drop (dfA a b)) := cut_all ca _
  have cy : Cn (dfY a b) ((nrmU b).drop (dfA a b)) := cut_all cb _
  have h : IsDiff (nrmU a) (nrmU b) (dfA a b) (dfE a b) := ⟨alA_is ca cb, alA_is (bwP_cn cx) (bwP_cn cy)⟩
  refine ⟨h, by rw [cx.len, List.length_drop], ?_⟩
  obtain ⟨h1, h2, -⟩ := h.ends
  have hc := cutP_cn cy.okL 0 ((lenL (dfY a b) : Int) - dfE a b)
  rw [cy.nrmU, cy.len, List.length_drop] at hc
  have e : (((((nrmU b).length - dfA a b : Nat) : Int) - (dfE a b : Int))).toNat = (nrmU b).length - dfA a b - dfE a b := by omega
  rw [e] at hc
  unfold dfL
  rw [cy.len, List.length_drop]
  simpa using hc
end Go.Proofs.YtijkekkjiboomaaGreatDoor

/- The document's view and the program's have one text, and how long it is. No Go in it. -/
import Derived.Test.YtodpdcflbnomgaaGreatPart16
import Derived.Test.YtodpdcflbnomgaaGreatPart25
import Derived.Lib.ItoaLen
namespace Go.Proofs.YtodpdcflbnomgaaGreat
open Go.RowKit Go.Maps
set_option linter.unusedVariables false
set_option linter.unusedSimpArgs false
set_option maxRecDepth 100000

theorem refBits_idemP (f : Nat) : refBits (refBits f) = refBits f := by
  unfold refBits
  by_cases h : isNaN f = true
  · rw [if_pos h, if_pos (by decide)]
  · rw [if_neg h, if_neg h]
theorem textL_clean (o : O) : textL (cleanO o).v = textL o.v := by
  show textL ⟨o.vk, o.vn, refBits o.vf, o.vs⟩ = textL ⟨o.vk, o.vn, o.vf, o.vs⟩
  unfold textL
  rw [refBits_idemP]
theorem etsT_fm {d : Nat} {f g : Key → Option Et} : ∀ {l : List Key}, (∀ x ∈ l, (f x).elim [] (etT d) = (g x).elim [] (etT d)) → etsT d (l.filterMap f) = etsT d (l.filterMap g)
  | [], _ => rfl
  | x :: l, h => by
    have h1 := h x (by simp)
    have h2 := etsT_fm (d := d) (f := f) (g := g) (l := l) fun y hy => h y (by simp [hy])
    rw [List.filterMap_cons, List.filterMap_cons]
    cases e1 : f x <;> cases e2 : g x <;> rw [e1, e2] at h1 <;> simp only [Option.elim] at h1
    · exact h2
    · have := congrArg List.length h1
      rw [etT_eq] at this
      simp at this
    · have := congrArg List.length h1
      rw [etT_eq] at this
      simp at this
    · show etT d _ ++ etsT d _ = etT d _ ++ etsT d _
      rw [h1, h2]
section
variable {s : MS} {L : List O} {H : List Rg}
/-- One text of both. -/
theorem view_text (h : Has s L) (hA : Apart L) (hH : ∀ c k, hasB s.hid c k = hasB H c k) : ∀ (n : Nat) (c k : Int) (d : Nat), U64 c → U64 k → etsT d (viewE s n c k) = etsT d (viewR H L n c k)
  | 0, _, _, _, _, _ => rfl
  | n + 1, c, k, d, hc, hk => by
    rw [viewE_succ, viewR_succ, keysR_eq h hc hk]
    refine etsT_fm fun ky _ => ?_
    rcases getR_eq h hA hH hc hk (strK ky) with ⟨e1, e2⟩ | ⟨b, hb, _, _, _, e1, e2⟩
    · rw [e1, e2]; rfl
    · have hf := (h.fits b hb).1
      rw [e1, e2]
      unfold entE
      rw [if_pos rfl, if_pos rfl]
      simp only [Option.elim]
      rw [etT_eq, etT_eq]
      simp only [Et.ky, Et.v, Et.kids]
      have e3 : entT d (strK ky) (cleanO b).v = entT d (strK ky) b.v := by unfold entT; rw [textL_clean]
      have e4 : isMapB (cleanO b) = isMapB b := rfl
      rw [e3, e4]
      by_cases hm : isMapB b = true
      · rw [if_pos hm, if_pos hm]
        rw [show (cleanO b).c = b.c from rfl, show (cleanO b).k = b.k from rfl, view_text h hA hH n b.c b.k (d + 1) hf.uc hf.uk]
      · rw [if_neg hm, if_neg hm]
/-- The texts of a set's key and value are short. -/
def ShortP (o : O) : Prop := o.v.fits ∧ o.vs.size ≤ 1000 ∧ o.ky.size ≤ 1000
theorem bits_ltP (f : Nat) (h : f < 18446744073709551616) : refBits f < 18446744073709551616 := by
  unfold refBits; split
  · decide
  · exact h
theorem ShortP.clean {o : O} (h : ShortP o) : ShortP (cleanO o) := ⟨⟨h.1.k0, h.1.k1, h.1.n0, h.1.n1, bits_ltP _ h.1.f1, h.1.s1⟩, h.2⟩
theorem okE_of (h : Has s L) (hA : Apart L) (hH : ∀ c k, hasB s.hid c k = hasB H c k) (hS : ∀ o ∈ L, ShortP o) : ∀ (n : Nat) (c k : Int), U64 c → U64 k → OkEs n (viewE s n c k)
  | 0, _, _, _, _ => rfl
  | n + 1, c, k, hc, hk => by
    rw [viewE_succ]
    intro e he
    obtain ⟨ky, hky, he⟩ := List.mem_filterMap.1 he
    rcases getR_eq h hA hH hc hk (strK ky) with ⟨e1, e2⟩ | ⟨b, hb, _, _, ek, e1, e2⟩
    · rw [e1] at he; unfold entE at he; simp at he
    · rw [e1] at he
      unfold entE at he
      rw [if_pos rfl] at he
      simp only [Option.some.injEq] at he
      subst he
      obtain ⟨q1, q2, q3⟩ := (hS b hb).clean
      have hf := (h.fits b hb).1
      refine ⟨q1, Nat.le_trans q2 (by decide), by rw [← ek]; exact Nat.le_trans q3 (by decide), ?_⟩
      simp only [Et.kids]
      split
      · exact okE_of h hA hH hS n _ _ hf.uc hf.uk
      · cases n with
        | zero => rfl
        | succ n => intro e he; cases he
theorem okR_of (hS : ∀ o ∈ L, ShortP o) : ∀ (n : Nat) (c k : Int), OkEs n (viewR H L n c k)
  | 0, _, _ => rfl
  | n + 1, c, k => by
    rw [viewR_succ]
    intro e he
    obtain ⟨ky, hky, he⟩ := List.mem_filterMap.1 he
    rcases getR_some (H := H) (L := L) (c := c) (k := k) (ky := strK ky) with e2 | ⟨b, hb, _, _, ek, e2⟩
    · rw [e2] at he; unfold entE at he; simp at he
    · rw [e2] at he
      unfold entE at he
      rw [if_pos rfl] at he
      simp only [Option.some.injEq] at he
      subst he
      obtain ⟨q1, q2, q3⟩ := hS b hb
      refine ⟨q1, Nat.le_trans q2 (by decide), by rw [← ek]; exact Nat.le_trans q3 (by decide), ?_⟩
      simp only [Et.kids]
      split
      · exact okR_of hS n _ _
      · cases n with
        | zero => rfl
        | succ n => intro e he; cases he
/-- What hangs below a map, so much each. -/
def hangW (E : Nat) : List O → Int → Int → Nat
  | [], _, _ => 0
  | o :: l, c, k => hangW E l c k + if o.pc = c ∧ o.pk = k then E + hangW E l o.c o.k else 0
theorem hang_skip (E : Nat) (c k : Int) : ∀ (a b : List O), (∀ o ∈ a, ¬ (o.pc = c ∧ o.pk = k)) → hangW E (a ++ b) c k = hangW E b c k
  | [], b, _ => rfl
  | x :: a, b, h => by
    rw [List.cons_append]
    show hangW E (a ++ b) c k + (if _ then _ else _) = _
    rw [if_neg (h x (by simp)), Nat.add_zero, hang_skip E c k a b fun o ho => h o (by simp [ho])]
def kidSum (f : O → Nat) (c k : Int) : List O → Nat
  | [] => 0
  | o :: l => kidSum f c k l + if o.pc = c ∧ o.pk = k then f o else 0
theorem hang_sum (hC : Chain L) (hA : Apart L) (hz : ∀ o ∈ L, o.c ≠ 0) (E : Nat) (c k : Int) : ∀ (suf pre : List O), L = pre ++ suf → hangW E suf c k = kidSum (fun o => E + hangW E L o.c o.k) c k suf
  | [], _, _ => rfl
  | o :: l, pre, e => by
    have e2 : L = (pre ++ [o]) ++ l := by rw [e]; simp
    show hangW E l c k + (if _ then _ else _) = kidSum _ c k l + (if _ then _ else _)
    rw [hang_sum hC hA hz E c k l (pre ++ [o]) e2]
    have hlen : pre.length < L.length := by rw [e]; simp
    have hgo : L[pre.length] = o := by
      have : L[pre.length]? = some o := by rw [e]; simp
      rw [List.getElem?_eq_getElem hlen] at this
      exact Option.some.inj this
    have h3 : hangW E L o.c o.k = hangW E l o.c o.k := by
      conv => lhs; rw [e2]
      refine hang_skip E o.c o.k _ l fun x hx => ?_
      rintro ⟨q1, q2⟩
      obtain ⟨i, hi, hxi⟩ := List.mem_iff_getElem.1 hx
      have hiL : i < L.length := by rw [e2, List.length_append]; omega
      have hxL : L[i] = x := by
        have : L[i]? = some x := by rw [e2, List.getElem?_append_left hi, List.getElem?_eq_getElem hi, hxi]
        rw [List.getElem?_eq_getElem hiL] at this
        exact Option.some.inj this
      rcases hC i hiL with ⟨z1, z2⟩ | ⟨j, hj, z0, z1, z2⟩
      · rw [hxL, q1] at z1
        exact hz o (by rw [e]; simp) z1
      · rw [hxL] at z1 z2
        have := hA j pre.length (by omega) hlen (by rw [hgo, z1, q1]) (by rw [hgo, z2, q2])
        have : i ≤ pre.length := by simp at hi; omega
        omega
    simp only [h3]
theorem zero_sum {α : Type} : ∀ l : List α, (l.map (fun _ => 0)).sum = 0
  | [] => rfl
  | a :: l => by rw [List.map_cons, List.sum_cons, zero_sum l]
/-- At most one of a list. -/
theorem one_sum {α : Type} (p : α → Prop) [DecidablePred p] (x : Nat) : ∀ (l : List α), l.Nodup → (∀ a ∈ l, ∀ b ∈ l, p a → p b → a = b) → (l.map (fun a => if p a then x else 0)).sum ≤ x
  | [], _, _ => by simp
  | a :: l, hn, h => by
    have hn' := List.nodup_cons.1 hn
    have ih := one_sum p x l hn'.2 fun b hb c hc => h b (by simp [hb]) c (by simp [hc])
    rw [List.map_cons, List.sum_cons]
    by_cases ha : p a
    · have h0 : ∀ b ∈ l, ¬ p b := fun b hb q => by
        have := h a (by simp) b (by simp [hb]) ha q
        exact hn'.1 (this ▸ hb)
      have : (l.map (fun a => if p a then x else 0)).sum = 0 := by
        have e : l.map (fun a => if p a then x else 0) = l.map (fun _ => 0) := List.map_congr_left fun b hb => if_neg (h0 b hb)
        rw [e, zero_sum]
      rw [if_pos ha, this]; omega
    · rw [if_neg ha]; omega
theorem sum_add {α : Type} (f g : α → Nat) : ∀ l : List α, (l.map (fun a => f a + g a)).sum = (l.map f).sum + (l.map g).sum
  | [] => rfl
  | a :: l => by
    have := sum_add f g l
    simp only [List.map_cons, List.sum_cons]
    omega
def keySum (f : O → Nat) (c k : Int) : List O → Key → Nat
  | [], _ => 0
  | o :: l, y => keySum f c k l y + if (o.pc = c ∧ o.pk = k) ∧ o.ky.data.toList = y then f o else 0
theorem keySum_ge (f : O → Nat) (c k : Int) {o : O} : ∀ {M : List O}, o ∈ M → o.pc = c → o.pk = k → f o ≤ keySum f c k M o.ky.data.toList
  | x :: M, h, h1, h2 => by
    show _ ≤ keySum f c k M _ + (if _ then _ else _)
    rcases List.mem_cons.1 h with rfl | h
    · rw [if_pos ⟨⟨h1, h2⟩, rfl⟩]; omega
    · have := keySum_ge f c k h h1 h2; omega
theorem keySum_le (f : O → Nat) (c k : Int) (ks : List Key) (hn : ks.Nodup) : ∀ M : List O, (ks.map (keySum f c k M)).sum ≤ kidSum f c k M
  | [] => by
    have : ∀ ks : List Key, (ks.map (keySum f c k [])).sum = 0 := fun ks => by
      induction ks with
      | nil => rfl
      | cons a l ih => rw [List.map_cons, List.sum_cons, ih]; rfl
    rw [this]; exact Nat.zero_le _
  | o :: M => by
    have e : (ks.map (keySum f c k (o :: M))).sum = (ks.map (keySum f c k M)).sum + (ks.map (fun y => if (o.pc = c ∧ o.pk = k) ∧ o.ky.data.toList = y then f o else 0)).sum := by
      rw [← sum_add]; rfl
    have ih := keySum_le f c k ks hn M
    have h1 : (ks.map (fun y => if (o.pc = c ∧ o.pk = k) ∧ o.ky.data.toList = y then f o else 0)).sum ≤ if o.pc = c ∧ o.pk = k then f o else 0 := by
      by_cases hp : o.pc = c ∧ o.pk = k
      · rw [if_pos hp]
        exact one_sum (fun y => (o.pc = c ∧ o.pk = k) ∧ o.ky.data.toList = y) (f o) ks hn fun a _ b _ qa qb => qa.2.symm.trans qb.2
      · rw [if_neg hp]
        have : ks.map (fun y => if (o.pc = c ∧ o.pk = k) ∧ o.ky.data.toList = y then f o else 0) = ks.map (fun _ => 0) := List.map_congr_left fun b hb => if_neg (fun q => hp q.1)
        rw [this]
        have : ∀ ks : List Key, (ks.map (fun _ => (0 : Nat))).sum = 0 := fun ks => by
          induction ks with
          | nil => rfl
          | cons a l ih => rw [List.map_cons, List.sum_cons, ih]
        rw [this]; exact Nat.le_refl _
    rw [e]
    show _ ≤ kidSum f c k M + (if _ then _ else _)
    omega
theorem fm_le {d : Nat} {g : Key → Option Et} {F : Key → Nat} : ∀ (ks : List Key), (∀ y ∈ ks, ∀ e, g y = some e → (etT d e).length ≤ F y) → (etsT d (ks.filterMap g)).length ≤ (ks.map F).sum
  | [], _ => by simp [etsT]
  | y :: ks, h => by
    have ih := fm_le (d := d) (g := g) (F := F) ks fun z hz => h z (by simp [hz])
    rw [List.filterMap_cons, List.map_cons, List.sum_cons]
    cases e : g y with
    | none => show (etsT d (ks.filterMap g)).length ≤ _; omega
    | some a =>
      have := h y (by simp) a e
      show (etT d a ++ etsT d (ks.filterMap g)).length ≤ _
      rw [List.length_append]; omega
theorem qL_lenP (s : ByteArray) : (qL s).length ≤ 2 * s.size + 2 := by
  have := quoteGo_length s.data.toList
  have e : s.data.toList.length = s.size := by rw [Array.length_toList]; rfl
  unfold qL
  simp only [List.length_cons, List.length_append, List.length_nil]
  omega
theorem textL_lenP (v : V) (h : v.fits) : (textL v).length ≤ 2 * v.s.size + 30 := by
  unfold textL
  split
  · simp
  split
  · split <;> simp
  split
  · have := Go.Lib.itoa_length_le v.n h.n0 (by have := h.n1; omega); omega
  split
  · rw [List.length_cons, hexGo_length]; omega
  split
  · have := quoteGo_length v.s.data.toList
    have e : v.s.data.toList.length = v.s.size := by rw [Array.length_toList]; rfl
    simp only [List.length_cons, List.length_append, List.length_nil]
    omega
  · simp
theorem view_hang (hC : Chain L) (hA : Apart L) (hz : ∀ o ∈ L, o.c ≠ 0) (hS : ∀ o ∈ L, ShortP o) (D : Nat) : ∀ (n : Nat) (c k : Int) (d : Nat), d + n ≤ D → (etsT d (viewR H L n c k)).length ≤ hangW (2 * D + 5000) L c k
  | 0, c, k, d, _ => by simp [viewR, etsT]
  | n + 1, c, k, d, hd => by
    rw [viewR_succ, hang_sum hC hA hz (2 * D + 5000) c k L [] rfl]
    have hks := keysR_spec L c k
    have hn : (keysR L c k).Nodup := hks.1.imp fun {a b} h => before_ne h
    refine Nat.le_trans (fm_le (F := keySum (fun o => (2 * D + 5000) + hangW (2 * D + 5000) L o.c o.k) c k L) _ fun y _ e he => ?_) (keySum_le _ c k _ hn L)
    rcases getR_some (H := H) (L := L) (c := c) (k := k) (ky := strK y) with e2 | ⟨b, hb, p1, p2, ek, e2⟩
    · rw [e2] at he; unfold entE at he; simp at he
    · rw [e2] at he
      unfold entE at he
      rw [if_pos rfl] at he
      simp only [Option.some.injEq] at he
      subst he
      have hge := keySum_ge (fun o => (2 * D + 5000) + hangW (2 * D + 5000) L o.c o.k) c k hb p1 p2
      have ey : b.ky.data.toList = y := by rw [ek]
      rw [ey] at hge
      refine Nat.le_trans ?_ hge
      obtain ⟨q1, q2, q3⟩ := hS b hb
      have l1 := qL_lenP b.ky
      have l2 := textL_lenP b.v q1
      have l3 : b.v.s.size = b.vs.size := rfl
      rw [etT_eq]
      simp only [Et.ky, Et.v, Et.kids]
      have hent : (entT d (strK y) b.v).length = 2 * d + 2 + (qL b.ky).length + 1 + (textL b.v).length := by
        rw [← ek]
        unfold entT
        simp only [List.length_append, List.length_cons, List.length_nil, insetT_len]
        omega
      have hkid : (etsT (d + 1) (if isMapB b = true then viewR H L n b.c b.k else [])).length ≤ hangW (2 * D + 5000) L b.c b.k := by
        split
        · exact view_hang hC hA hz hS D n b.c b.k (d + 1) (by omega)
        · simp [etsT]
      rw [List.length_append, List.length_append, hent]
      have h5 : ([10] : List UInt8).length = 1 := rfl
      omega
/-- So much hangs in all, at most. -/
theorem hang_total (E : Nat) : ∀ (L : List O) (P : List (Int × Int)), L.Pairwise (fun a b => ¬ (a.c = b.c ∧ a.k = b.k)) → P.Nodup → (∀ p ∈ P, ∀ o ∈ L, ¬ (o.c = p.1 ∧ o.k = p.2)) → (P.map (fun p => hangW E L p.1 p.2)).sum ≤ E * L.length
  | [], P, _, _, _ => by
    have : ∀ P : List (Int × Int), (P.map (fun p => hangW E [] p.1 p.2)).sum = 0 := fun P => by
      induction P with
      | nil => rfl
      | cons a l ih => rw [List.map_cons, List.sum_cons, ih]; rfl
    rw [this]; exact Nat.zero_le _
  | o :: l, P, hp, hn, hd => by
    have hp' := List.pairwise_cons.1 hp
    have e : (P.map (fun p => hangW E (o :: l) p.1 p.2)).sum = (P.map (fun p => hangW E l p.1 p.2)).sum + (P.map (fun p => if o.pc = p.1 ∧ o.pk = p.2 then E + hangW E l o.c o.k else 0)).sum := by
      rw [← sum_add]; rfl
    have h1 := one_sum (fun p : Int × Int => o.pc = p.1 ∧ o.pk = p.2) (E + hangW E l o.c o.k) P hn fun a _ b _ qa qb => Prod.ext (qa.1.symm.trans qb.1) (qa.2.symm.trans qb.2)
    have ih := hang_total E l ((o.c, o.k) :: P) hp'.2 (List.nodup_cons.2 ⟨fun q => hd _ q o (by simp) ⟨rfl, rfl⟩, hn⟩) fun p hpm x hx => by
      rcases List.mem_cons.1 hpm with rfl | hpm
      · exact fun q => hp'.1 x hx ⟨q.1.symm, q.2.symm⟩
      · exact hd p hpm x (by simp [hx])
    rw [List.map_cons, List.sum_cons] at ih
    simp only at ih
    rw [e, List.length_cons, Nat.mul_add]
    omega
theorem apart_pair (hA : Apart L) : L.Pairwise (fun a b => ¬ (a.c = b.c ∧ a.k = b.k)) := by
  rw [List.pairwise_iff_getElem]
  intro i j hi hj hij q
  have := hA i j hi hj q.1 q.2
  omega
theorem view_size (hC : Chain L) (hA : Apart L) (hz : ∀ o ∈ L, o.c ≠ 0) (hS : ∀ o ∈ L, ShortP o) (n : Nat) : (etsT 0 (viewR H L n 0 0)).length ≤ (2 * n + 5000) * L.length := by
  have h1 := view_hang (H := H) hC hA hz hS n n 0 0 0 (by omega)
  have h2 := hang_total (2 * n + 5000) L [(0, 0)] (apart_pair hA) (by simp) (fun p hp o ho q => by
    rw [List.mem_singleton] at hp
    subst hp
    exact hz o ho q.1)
  simp only [List.map_cons, List.map_nil, List.sum_cons, List.sum_nil] at h2
  omega
end
end Go.Proofs.YtodpdcflbnomgaaGreat

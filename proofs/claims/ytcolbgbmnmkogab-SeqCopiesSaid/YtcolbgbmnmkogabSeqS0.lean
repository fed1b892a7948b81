/- Rows as lists of things with lengths: what stands where (no Go in it). -/
import Derived.Test.YtcolbgbmnmkogabSeqRg
namespace Go.Proofs.Ytcolbgbmnmkogab
set_option linter.unusedVariables false
set_option linter.unusedSimpArgs false

def sumF (len : Nat → Int) (l : List Nat) : Int := (l.map len).sum
theorem sumF_nil (len : Nat → Int) : sumF len [] = 0 := rfl
theorem sumF_cons (len : Nat → Int) (i : Nat) (l : List Nat) : sumF len (i :: l) = len i + sumF len l := rfl
theorem sumF_append (len : Nat → Int) (a b : List Nat) : sumF len (a ++ b) = sumF len a + sumF len b := by simp [sumF, List.sum_append]
theorem sumF_nn {len : Nat → Int} (h : ∀ x, 0 ≤ len x) : ∀ l : List Nat, 0 ≤ sumF len l
  | [] => Int.le_refl _
  | i :: l => by
    have := sumF_nn h l
    have := h i
    rw [sumF_cons]
    omega
theorem sumF_tree (A : Nat → Th) (t : Tr) : t.sum A = sumF (fun x => (A x).long) t.flat := Tr.sum_flat
/-- The thing over a place, and how much of it is ahead. -/
def atF (len : Nat → Int) : List Nat → Int → Nat × Int
  | [], _ => (0, 0)
  | i :: r, p => if p < 0 then (0, 0) else if p < len i then (i, p) else atF len r (p - len i)
theorem atF_neg {len : Nat → Int} {l : List Nat} {p : Int} (h : p < 0) : atF len l p = (0, 0) := by
  cases l with
  | nil => rfl
  | cons i r => unfold atF; rw [if_pos h]
theorem atF_append {len : Nat → Int} (hl : ∀ x, 0 ≤ len x) : ∀ (a b : List Nat) (p : Int), 0 ≤ p → atF len (a ++ b) p = if p < sumF len a then atF len a p else atF len b (p - sumF len a)
  | [], b, p, hp => by rw [sumF_nil, if_neg (by omega), List.nil_append, Int.sub_zero]
  | i :: a, b, p, hp => by
    have hi := hl i
    have hs := sumF_nn hl a
    show (if p < 0 then (0, 0) else if p < len i then (i, p) else atF len (a ++ b) (p - len i)) = _
    rw [sumF_cons, if_neg (by omega)]
    by_cases h : p < len i
    · rw [if_pos h, if_pos (by omega)]
      show _ = if p < 0 then (0, 0) else if p < len i then (i, p) else _
      rw [if_neg (by omega), if_pos h]
    · rw [if_neg h, atF_append hl a b (p - len i) (by omega)]
      by_cases h2 : p - len i < sumF len a
      · rw [if_pos h2, if_pos (by omega)]
        show _ = if p < 0 then (0, 0) else if p < len i then (i, p) else atF len a (p - len i)
        rw [if_neg (by omega), if_neg h]
      · rw [if_neg h2, if_neg (by omega), show p - len i - sumF len a = p - (len i + sumF len a) from by omega]
theorem atT_flat {A : Nat → Th} (hl : ∀ x, 0 ≤ (A x).long) : ∀ (t : Tr) (p : Int), atT A t p = atF (fun x => (A x).long) t.flat p
  | .nil, p => rfl
  | .node l i r, p => by
    have hs := Tr.sum_nn hl l
    rw [atT_node]
    by_cases hp : p < 0
    · rw [if_pos (by omega), atT_flat hl l p, atF_neg hp, atF_neg hp]
    · show _ = atF _ (l.flat ++ i :: r.flat) p
      rw [atF_append hl _ _ p (by omega), ← sumF_tree]
      by_cases h : p < l.sum A
      · rw [if_pos (by omega), if_pos h, atT_flat hl l p]
      · rw [if_neg (by omega), if_neg h]
        show _ = if p - l.sum A < 0 then (0, 0) else if p - l.sum A < (A i).long then (i, p - l.sum A) else atF _ r.flat (p - l.sum A - (A i).long)
        rw [if_neg (show ¬ p - l.sum A < 0 from by omega), atT_flat hl r]
/-- The last one that p holds of, one that holds of all ahead of such a thing. -/
def lastF (p : Nat → Bool) (l : List Nat) : Nat := (l.takeWhile p).getLastD 0
theorem getLastD_mid : ∀ (l a : List Nat) (i f : Nat), (l ++ i :: a).getLastD f = a.getLastD i
  | [], a, i, f => List.getLastD_cons ..
  | x :: l, a, i, f => by rw [List.cons_append, List.getLastD_cons]; exact getLastD_mid l a i x
theorem lastT_flat {p : Nat → Bool} : ∀ (t : Tr) (f : Nat) (a b : List Nat), t.flat = a ++ b → (∀ x ∈ a, p x = true) → (∀ x ∈ b, p x = false) → lastT p t f = a.getLastD f
  | .nil, f, a, b, h, _, _ => by
    have : a = [] := (List.append_eq_nil_iff.1 h.symm).1
    rw [this]; rfl
  | .node l i r, f, a, b, h, ha, hb => by
    have h' : l.flat ++ i :: r.flat = a ++ b := h
    show (bif p i then lastT p r i else lastT p l f) = _
    cases hp : p i with
    | true =>
      rcases List.append_eq_append_iff.1 h' with ⟨a', e1, e2⟩ | ⟨a', e1, e2⟩
      · cases a' with
        | nil =>
          have : i ∈ b := by
            have e : i :: r.flat = b := by simpa using e2
            rw [← e]; simp
          exact absurd (hb i this) (by rw [hp]; simp)
        | cons y a2 =>
          have e3 : i = y ∧ r.flat = a2 ++ b := by simpa using e2
          obtain ⟨rfl, e4⟩ := e3
          rw [cond_true, lastT_flat r i a2 b e4 (fun x hx => ha x (by rw [e1]; simp [hx])) hb, e1]
          exact (getLastD_mid _ _ _ _).symm
      · have : i ∈ b := by rw [e2]; simp
        exact absurd (hb i this) (by rw [hp]; simp)
    | false =>
      rcases List.append_eq_append_iff.1 h' with ⟨a', e1, e2⟩ | ⟨a', e1, e2⟩
      · cases a' with
        | nil =>
          have e : a = l.flat := by simpa using e1
          rw [cond_false, lastT_flat l f a [] (by rw [e]; simp) ha (fun x hx => by cases hx)]
        | cons y a2 =>
          have e3 : i = y ∧ r.flat = a2 ++ b := by simpa using e2
          have : i ∈ a := by rw [e1, e3.1]; simp
          exact absurd (ha i this) (by rw [hp]; simp)
      · rw [cond_false, lastT_flat l f a a' e1 ha (fun x hx => hb x (by rw [e2]; simp [hx]))]
theorem lastT_lastF {p : Nat → Bool} (t : Tr) (h : ∀ x ∈ t.flat.dropWhile p, p x = false) : lastT p t 0 = lastF p t.flat :=
  lastT_flat t 0 (t.flat.takeWhile p) (t.flat.dropWhile p) (List.takeWhile_append_dropWhile).symm (fun x hx => by
    have := List.all_takeWhile (p := p) (l := t.flat)
    exact List.all_eq_true.1 this x hx) h
/-- How long all ahead of one are. -/
def aheadF (len : Nat → Int) (l : List Nat) (i : Nat) : Int := sumF len (l.takeWhile fun x => decide (x ≠ i))
theorem takeWhile_ne {a b : List Nat} {i : Nat} (h : i ∉ a) : (a ++ i :: b).takeWhile (fun x => decide (x ≠ i)) = a := by
  induction a with
  | nil => simp
  | cons x a ih =>
    have hx : x ≠ i := fun e => h (by simp [e])
    simp only [List.cons_append, List.takeWhile_cons, hx, ne_eq, not_false_eq_true, decide_true, if_true]
    rw [ih (fun h' => h (by simp [h']))]
theorem aheadF_of {len : Nat → Int} {a b : List Nat} {i : Nat} (h : i ∉ a) : aheadF len (a ++ i :: b) i = sumF len a := by
  unfold aheadF; rw [takeWhile_ne h]
/-- One more, right behind i (0: ahead of all). -/
def insB (i n : Nat) : List Nat → List Nat
  | [] => if i = 0 then [n] else []
  | x :: l => if i = 0 then n :: x :: l else if x = i then x :: n :: l else x :: insB i n l
theorem insB_zero (n : Nat) (l : List Nat) : insB 0 n l = n :: l := by cases l <;> rfl
theorem insB_of {i n : Nat} (hi : i ≠ 0) : ∀ {a b : List Nat}, i ∉ a → insB i n (a ++ i :: b) = a ++ i :: n :: b
  | [], b, _ => by show (if i = 0 then _ else if i = i then _ else _) = _; rw [if_neg hi, if_pos rfl]; rfl
  | x :: a, b, h => by
    have hx : x ≠ i := fun e => h (by simp [e])
    show (if i = 0 then _ else if x = i then _ else x :: insB i n (a ++ i :: b)) = _
    rw [if_neg hi, if_neg hx, insB_of hi (fun h' => h (by simp [h']))]
    rfl
/-- The one behind i (0: the first); 0: there is none. -/
def nextF (l : List Nat) (i : Nat) : Nat := if i = 0 then l.headD 0 else ((l.dropWhile fun x => decide (x ≠ i)).tail).headD 0
theorem nextF_of {a b : List Nat} {i : Nat} (hi : i ≠ 0) (h : i ∉ a) : nextF (a ++ i :: b) i = b.headD 0 := by
  unfold nextF
  rw [if_neg hi]
  have : (a ++ i :: b).dropWhile (fun x => decide (x ≠ i)) = i :: b := by
    induction a with
    | nil => simp
    | cons x a ih =>
      have hx : x ≠ i := fun e => h (by simp [e])
      simp only [List.cons_append, List.dropWhile_cons, hx, ne_eq, not_false_eq_true, decide_true, if_true]
      exact ih (fun h' => h (by simp [h']))
  rw [this]; rfl
/-- Seen from a thing of the row. -/
theorem RowOk.seen {A : Nat → Th} {n : Nat} {t : Tr} (h : RowOk A n t) {i : Nat} (hi : i < n) (h0 : i ≠ 0) : ∃ c l r, t = plug c (.node l i r) ∧ i ∉ cl c ++ l.flat ∧ i ∉ r.flat ++ cr c ∧ t.flat = (cl c ++ l.flat) ++ i :: (r.flat ++ cr c) := by
  obtain ⟨c, l, r, e⟩ := focus ((h.lab i).2 ⟨by omega, hi⟩) []
  rw [List.append_nil] at e
  have e' : t = plug c (.node l i r) := e
  have hf : t.flat = (cl c ++ l.flat) ++ i :: (r.flat ++ cr c) := by rw [e', flat_plug]; simp [Tr.flat]
  have hn := h.nod
  rw [hf] at hn
  have hnd := List.nodup_append.1 hn
  exact ⟨c, l, r, e', fun h' => hnd.2.2 i h' i (by simp) rfl, (List.nodup_cons.1 hnd.2.1).1, hf⟩
theorem sumC_cl (A : Nat → Th) : ∀ c : List Fr, sumC A c = sumF (fun x => (A x).long) (cl c)
  | [] => rfl
  | .L u r :: c => sumC_cl A c
  | .R l u :: c => by
    have := sumC_cl A c
    show sumC A c + (l.sum A + (A u).long) = sumF _ (cl c ++ (l.flat ++ [u]))
    rw [sumF_append, sumF_append, sumF_tree, this, sumF_cons, sumF_nil]
    omega
end Go.Proofs.Ytcolbgbmnmkogab

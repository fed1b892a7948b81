/- The contract of utf.Cut. -/
import Derived.Test.YtmknkecaeagmbaaGreatDoorPart8
import Derived.Test.YtmknkecaeagmbaaGreatDoorPart1
import Derived.Test.YtmknkecaeagmbaaGreatDoorPart7
namespace Go.Proofs.YtmknkecaeagmbaaGreatDoor
open Go.RowKit Go.Shelf
set_option linter.unusedVariables false
set_option maxRecDepth 100000
attribute [local go_sem] Oper.semAt_some

/-- Where a piece ends, and begins, in bytes, behind some rounds. -/
def cEnd (l : List (Nat × Nat)) : Int := l.foldl (fun a x => a + Go.Lib.runeLen (x.2 : Int)) 0
def cBeg (fr : Int) (l : List (Nat × Nat)) : Int := (l.foldl (fun (p : Int × Int) x => (if (x.1 : Int) < fr then p.2 + Go.Lib.runeLen (x.2 : Int) else p.1, p.2 + Go.Lib.runeLen (x.2 : Int))) (0, 0)).1
theorem cPair (fr : Int) (l : List (Nat × Nat)) : (l.foldl (fun (p : Int × Int) x => (if (x.1 : Int) < fr then p.2 + Go.Lib.runeLen (x.2 : Int) else p.1, p.2 + Go.Lib.runeLen (x.2 : Int))) (0, 0)) = (cBeg fr l, cEnd l) := by
  have h : ∀ (l : List (Nat × Nat)) (a b : Int), (l.foldl (fun (p : Int × Int) x => (if (x.1 : Int) < fr then p.2 + Go.Lib.runeLen (x.2 : Int) else p.1, p.2 + Go.Lib.runeLen (x.2 : Int))) (a, b)).2 = l.foldl (fun a x => a + Go.Lib.runeLen (x.2 : Int)) b := by
    intro l
    induction l with
    | nil => intro a b; rfl
    | cons x l ih => intro a b; simp only [List.foldl_cons]; rw [ih]
  exact Prod.ext rfl (h l 0 0)
theorem cEnd_snoc (l : List (Nat × Nat)) (x : Nat × Nat) : cEnd (l ++ [x]) = cEnd l + Go.Lib.runeLen (x.2 : Int) := by simp [cEnd]
theorem cBeg_snoc (fr : Int) (l : List (Nat × Nat)) (x : Nat × Nat) : cBeg fr (l ++ [x]) = if (x.1 : Int) < fr then cEnd l + Go.Lib.runeLen (x.2 : Int) else cBeg fr l := by
  have h := cPair fr l
  unfold cBeg at h ⊢
  rw [List.foldl_append, h]
  simp only [List.foldl_cons, List.foldl_nil]
theorem runeLen_bd (r : Int) : -1 ≤ Go.Lib.runeLen r ∧ Go.Lib.runeLen r ≤ 4 := by
  unfold Go.Lib.runeLen
  repeat' split
  all_goals omega
theorem snoc_induct {α : Type} {p : List α → Prop} (h0 : p []) (h1 : ∀ l x, p l → p (l ++ [x])) (l : List α) : p l := by
  have : ∀ n (l : List α), l.length = n → p l := by
    intro n
    induction n with
    | zero => intro l h; rw [List.eq_nil_of_length_eq_zero h]; exact h0
    | succ n ih =>
      intro l h
      have hne : l ≠ [] := by intro e; rw [e] at h; simp at h
      rw [← List.dropLast_concat_getLast hne]
      exact h1 _ _ (ih _ (by simp; omega))
  exact this _ l rfl
theorem cEnd_bd (l : List (Nat × Nat)) : -(l.length : Int) ≤ cEnd l ∧ cEnd l ≤ 4 * (l.length : Int) := by
  induction l using snoc_induct with
  | h0 => simp [cEnd]
  | h1 l x ih =>
    have := runeLen_bd (x.2 : Int)
    rw [cEnd_snoc, List.length_append, List.length_singleton]
    omega
theorem cEnd_enum (l : List Nat) (ok : ∀ r ∈ l, okRune r) : cEnd (enumR 0 l) = ((encAll l).length : Int) := by
  induction l using snoc_induct with
  | h0 => rfl
  | h1 l r ih =>
    rw [enumR_snoc, cEnd_snoc, ih (fun x hx => ok x (by simp [hx])), encAll_append, runeLen_enc r (ok r (by simp))]
    simp [encAll]
theorem cBeg_enum (fr : Int) (l : List Nat) (ok : ∀ r ∈ l, okRune r) : cBeg fr (enumR 0 l) = ((encAll (l.take fr.toNat)).length : Int) := by
  induction l using snoc_induct with
  | h0 => simp [cBeg, enumR, encAll]
  | h1 l r ih =>
    rw [enumR_snoc, cBeg_snoc, ih (fun x hx => ok x (by simp [hx])), cEnd_enum l (fun x hx => ok x (by simp [hx])), runeLen_enc r (ok r (by simp))]
    by_cases h : (l.length : Int) < fr
    · rw [if_pos h, List.take_of_length_le (by simp; omega), encAll_append]
      simp [encAll]
    · rw [if_neg h, List.take_append_of_le_length (by omega)]
/-- No round has been at to or above. -/
def Low (tt : Int) (pre : List (Nat × Nat)) : Prop := ∀ y ∈ pre, (y.1 : Int) < tt
theorem low_snoc {tt : Int} {pre : List (Nat × Nat)} {x : Nat × Nat} (h : Low tt pre) (hx : (x.1 : Int) < tt) : Low tt (pre ++ [x]) := by
  intro y hy
  rcases List.mem_append.1 hy with e | e
  · exact h y e
  · rw [List.mem_singleton] at e; rw [e]; exact hx
theorem enumR_mem (k : Nat) (l : List Nat) (j : Nat) (hj : j < l.length) : (k + j, l[j]) ∈ enumR k l := by
  induction l generalizing k j with
  | nil => simp at hj
  | cons r l ih =>
    cases j with
    | zero => simp [enumR]
    | succ j => have := ih (k + 1) j (by simp at hj; omega); simp only [enumR, List.mem_cons, List.getElem_cons_succ]; right; rw [show k + (j + 1) = k + 1 + j from by omega]; exact this
/-- What the loop has gone through when it ends. -/
theorem cut_end {tt : Int} {rs : List Nat} (h : Low tt (enumR 0 rs)) : rs.take tt.toNat = rs := by
  by_cases e : rs.length ≤ tt.toNat
  · exact List.take_of_length_le e
  · have := h _ (enumR_mem 0 rs (rs.length - 1) (by omega))
    simp only at this
    omega
theorem cut_mid {tt : Int} {rs : List Nat} {pre : List (Nat × Nat)} {x : Nat × Nat} (hp : pre ++ [x] <+: enumR 0 rs) (h : Low tt pre) (hx : tt ≤ (x.1 : Int)) : pre = enumR 0 (rs.take tt.toNat) := by
  have hp' : pre <+: enumR 0 rs := (List.prefix_append _ _).trans hp
  have ht : pre = (enumR 0 rs).take pre.length := List.prefix_iff_eq_take.1 hp'
  have hl := hp.length_le
  rw [enumR_len, List.length_append, List.length_singleton] at hl
  have ht2 : pre ++ [x] = (enumR 0 rs).take (pre.length + 1) := by have := List.prefix_iff_eq_take.1 hp; rwa [List.length_append, List.length_singleton] at this
  rw [enumR_take] at ht ht2
  have hx1 : x.1 = pre.length := by
    rw [List.take_succ_eq_append_getElem (show pre.length < rs.length by omega), enumR_snoc, ← ht] at ht2
    have := List.append_cancel_left ht2
    rw [List.cons.injEq] at this
    rw [this.1, List.length_take]; simp only; omega
  have hpl : pre.length = tt.toNat := by
    by_cases e : pre.length = 0
    · omega
    · have := h (pre.length - 1, (rs.take pre.length)[pre.length - 1]'(by rw [List.length_take]; omega)) (by
        have := enumR_mem 0 (rs.take pre.length) (pre.length - 1) (by rw [List.length_take]; omega)
        rw [← ht, Nat.zero_add] at this
        exact this)
      simp only at this
      omega
  rw [hpl] at ht
  exact ht
/-- The bytes between. -/
theorem cut_bytes (s : ByteArray) (fr tt : Int) : (encAll (((rsOf s.data.toList).take tt.toNat).take fr.toNat)).length ≤ (encAll ((rsOf s.data.toList).take tt.toNat)).length ∧ (encAll ((rsOf s.data.toList).take tt.toNat)).length ≤ s.size ∧
    s.extract (encAll (((rsOf s.data.toList).take tt.toNat).take fr.toNat)).length (encAll ((rsOf s.data.toList).take tt.toNat)).length = cutOf s.data.toList fr tt := by
  have hsl : s.data.toList.length = s.size := by simp
  generalize hrs : rsOf s.data.toList = rs
  have hs : runesOf s.data.toList = none ∧ rs = [] ∨ encAll rs = s.data.toList := by
    cases h : runesOf s.data.toList with
    | none => rw [rsOf_none h] at hrs; exact .inl ⟨rfl, hrs.symm⟩
    | some r => rw [rsOf_some h] at hrs; subst hrs; exact .inr (enc_runesOf r _ h).2
  have h1 : encAll (rs.take tt.toNat) = encAll ((rs.take tt.toNat).take fr.toNat) ++ encAll ((rs.take tt.toNat).drop fr.toNat) := by rw [← encAll_append, List.take_append_drop]
  have h2 : encAll rs = encAll (rs.take tt.toNat) ++ encAll (rs.drop tt.toNat) := by rw [← encAll_append, List.take_append_drop]
  have hle : (encAll (rs.take tt.toNat)).length ≤ s.size := by
    rcases hs with ⟨_, e⟩ | e
    · rw [e]; simp [encAll]
    · rw [← hsl, ← e, h2, List.length_append]; omega
  refine ⟨by rw [h1, List.length_append]; omega, hle, ?_⟩
  unfold cutOf cutR
  rw [hrs]
  apply bytes_ext
  rw [Go.Lib.extract_data, strOf_list]
  rcases hs with ⟨_, e⟩ | e
  · rw [e]; simp [encAll]
  · rw [← e, h2, h1]
    rw [List.append_assoc, List.drop_left, List.take_append_of_le_length (by rw [List.length_append]; omega)]
    rw [List.take_of_length_le (by rw [List.length_append]; omega)]

theorem clone_any (s : ByteArray) (hs : s.size ≤ 281474976710656) (w : World) : Calls Tryz.prog 72 #[.string s] w fun e w' => e = .returned (.string s) ∧ Touch (fun _ => False) w w' := by
  have HC : Hid (Calls Tryz.prog 98 #[.string s] w fun e w' => e = .returned (.string s) ∧ Below w.heap.size w w') := Tryz.stringslite_Clone s w hs
  go_enter Tryz.func72, Tryz.ntmps72
  go_wp2_with fail
  refine HC.out.mono ?_
  rintro e w1 ⟨rfl, hB⟩
  go_wp2_with fail
  go_ret
  exact ⟨rfl, Touch.ofBelow hB⟩
end Go.Proofs.YtmknkecaeagmbaaGreatDoor

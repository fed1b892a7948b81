/- What a value's reading gives, as functions on bytes; and that what is read is what would be written. It speaks of no program. -/
import Derived.Test.YtkiicdleoniioaaDoorRoundTrip
import Derived.Test.YtkiicdleoniioaaDoorPart11
import Derived.Test.YtkiicdleoniioaaDoorRef2c
namespace Go.Proofs.YtkiicdleoniioaaDoor
open Go.RowKit
set_option linter.unusedVariables false
set_option linter.unusedSimpArgs false

def natV : Value → Nat
  | .int _ n => n.toNat
  | _ => 0
def intV : Value → Int
  | .int _ n => n
  | _ => 0
def strV : Value → ByteArray
  | .string s => s
  | _ => ⟨#[]⟩

/-- A kind and what it uses: the error, the value, what is left. -/
def partsOf (bs : List UInt8) : Int × V × List UInt8 :=
  if natV (rdByte bs 0).2.1 = 1 then ((rdByte (rdByte bs 0).2.2 (rdByte bs 0).1).1, ⟨1, natV (rdByte (rdByte bs 0).2.2 (rdByte bs 0).1).2.1, 0, ⟨#[]⟩⟩, (rdByte (rdByte bs 0).2.2 (rdByte bs 0).1).2.2)
  else if natV (rdByte bs 0).2.1 = 2 then ((rdInt (rdByte bs 0).2.2 (rdByte bs 0).1).1, ⟨2, intV (rdInt (rdByte bs 0).2.2 (rdByte bs 0).1).2.1, 0, ⟨#[]⟩⟩, (rdInt (rdByte bs 0).2.2 (rdByte bs 0).1).2.2)
  else if natV (rdByte bs 0).2.1 = 3 then ((rdFixed (rdByte bs 0).2.2 (rdByte bs 0).1).1, ⟨3, 0, natV (rdFixed (rdByte bs 0).2.2 (rdByte bs 0).1).2.1, ⟨#[]⟩⟩, (rdFixed (rdByte bs 0).2.2 (rdByte bs 0).1).2.2)
  else if natV (rdByte bs 0).2.1 = 4 then ((rdText (rdByte bs 0).2.2 (rdByte bs 0).1 4096).1, ⟨4, 0, 0, strV (rdText (rdByte bs 0).2.2 (rdByte bs 0).1 4096).2.1⟩, (rdText (rdByte bs 0).2.2 (rdByte bs 0).1 4096).2.2)
  else ((rdByte bs 0).1, ⟨natV (rdByte bs 0).2.1, 0, 0, ⟨#[]⟩⟩, (rdByte bs 0).2.2)

/-- The error of a value's reading. -/
def errVal (bs : List UInt8) : Int :=
  if (partsOf bs).1 ≠ 0 then (partsOf bs).1 else if refCheck (partsOf bs).2.1 = 0 ∧ refBits (partsOf bs).2.1.f = (partsOf bs).2.1.f then 0 else 11
def V0 : V := ⟨0, 0, 0, ⟨#[]⟩⟩
/-- The value that is read. -/
def valOf (bs : List UInt8) : V := if errVal bs = 0 then (partsOf bs).2.1 else V0

theorem rdByte_form (bs : List UInt8) (er : Int) : ∃ n : Nat, n < 256 ∧ natV (rdByte bs er).2.1 = n ∧ rdByte bs er = ((rdByte bs er).1, .int .u8 n, (rdByte bs er).2.2) := by
  obtain ⟨n, hn, h⟩ : ∃ n : Nat, n < 256 ∧ (rdByte bs er).2.1 = .int .u8 n := outcome_val (fun v => ∃ n : Nat, n < 256 ∧ v = .int .u8 n) ⟨0, by decide, rfl⟩ ⟨_, UInt8.toNat_lt _, rfl⟩
  exact ⟨n, hn, by rw [h]; simp [natV], by rw [← h]⟩
theorem zz_range (n : Nat) (h : n ≤ 18446744073709551615) : -9223372036854775808 ≤ zz n ∧ zz n < 9223372036854775808 := by
  unfold zz; split <;> omega
theorem rdInt_form (bs : List UInt8) (er : Int) : ∃ n : Int, -9223372036854775808 ≤ n ∧ n < 9223372036854775808 ∧ intV (rdInt bs er).2.1 = n ∧ rdInt bs er = ((rdInt bs er).1, .int .i64 n, (rdInt bs er).2.2) := by
  obtain ⟨n, h0, h1, h⟩ : ∃ n : Int, -9223372036854775808 ≤ n ∧ n < 9223372036854775808 ∧ (rdInt bs er).2.1 = .int .i64 n := outcome_val (fun v => ∃ n : Int, -9223372036854775808 ≤ n ∧ n < 9223372036854775808 ∧ v = .int .i64 n) ⟨0, by decide, by decide, rfl⟩ ⟨_, (zz_range _ (rdU_le _ _)).1, (zz_range _ (rdU_le _ _)).2, rfl⟩
  exact ⟨n, h0, h1, by rw [h]; rfl, by rw [← h]⟩
theorem rdFixed_form (bs : List UInt8) (er : Int) : ∃ n : Nat, n < 18446744073709551616 ∧ natV (rdFixed bs er).2.1 = n ∧ rdFixed bs er = ((rdFixed bs er).1, .int .u64 n, (rdFixed bs er).2.2) := by
  obtain ⟨n, hn, h⟩ : ∃ n : Nat, n < 18446744073709551616 ∧ (rdFixed bs er).2.1 = .int .u64 n := by
    refine outcome_val (fun v => ∃ n : Nat, n < 18446744073709551616 ∧ v = .int .u64 n) ⟨0, by decide, rfl⟩ ⟨_, ?_, rfl⟩
    refine Nat.lt_of_lt_of_le (be_lt _) ?_
    refine Nat.le_trans (Nat.pow_le_pow_right (by decide) (show (bs.take 8).length ≤ 8 by simp; omega)) (by decide)
  exact ⟨n, hn, by rw [h]; simp [natV], by rw [← h]⟩
theorem rdText_form (bs : List UInt8) (er : Int) : ∃ s : ByteArray, s.size ≤ 4096 ∧ strV (rdText bs er 4096).2.1 = s ∧ rdText bs er 4096 = ((rdText bs er 4096).1, .string s, (rdText bs er 4096).2.2) := by
  obtain ⟨s, hs, h⟩ : ∃ s : ByteArray, s.size ≤ 4096 ∧ (rdText bs er 4096).2.1 = .string s := by
    refine outcome_val (fun v => ∃ s : ByteArray, s.size ≤ 4096 ∧ v = .string s) ⟨_, Nat.zero_le _, rfl⟩ ⟨_, ?_, rfl⟩
    have h1 := rdU_le bs 4096
    show (((rdU bs 4096).2.2.take (rdU bs 4096).2.1).toArray).size ≤ 4096
    simp; omega
  exact ⟨s, hs, by rw [h]; rfl, by rw [← h]⟩

/-- A number has one spelling. -/
theorem numGo_back (f : Nat) : ∀ (bs : List UInt8) (k acc V : Nat) (r : List UInt8), k + f = 9 → numGo bs k acc = (0, V, r) → ∃ N, V = acc + N * 2 ^ (7 * k) ∧ bs = putGo f N ++ r ∧ (k = 0 ∨ 0 < N) := by
  induction f with
  | zero =>
    intro bs k acc V r hk h
    cases bs with
    | nil => simp [numGo] at h
    | cons b t =>
      rw [numGo] at h
      split at h
      · simp at h
      · rename_i hc
        have hb : b.toNat ≤ 1 := by omega
        rw [if_pos (by omega)] at h
        simp only [Prod.mk.injEq, true_and] at h
        refine ⟨b.toNat, h.1.symm, ?_, by omega⟩
        rw [putGo, ← h.2]
        simp
  | succ f ih =>
    intro bs k acc V r hk h
    cases bs with
    | nil => simp [numGo] at h
    | cons b t =>
      have hb := b.toNat_lt
      rw [numGo] at h
      split at h
      · simp at h
      · rename_i hc
        split at h
        · rename_i h1
          simp only [Prod.mk.injEq, true_and] at h
          refine ⟨b.toNat, h.1.symm, ?_, by omega⟩
          rw [putGo_last h1, ← h.2]
          simp
        · rename_i h1
          obtain ⟨N, hV, ht, hN⟩ := ih t (k + 1) _ V r (by omega) h
          refine ⟨b.toNat - 128 + 128 * N, ?_, ?_, by omega⟩
          · rw [hV]
            have e : 2 ^ (7 * (k + 1)) = 128 * 2 ^ (7 * k) := by rw [show 7 * (k + 1) = 7 * k + 7 from by omega, Nat.pow_add]; omega
            rw [e, Nat.add_mul]
            generalize 2 ^ (7 * k) = P
            rw [Nat.mul_comm 128 N, Nat.mul_assoc]; omega
          · rw [putGo_more (by omega), ht]
            have e1 : (b.toNat - 128 + 128 * N) % 128 + 128 = b.toNat := by omega
            have e2 : (b.toNat - 128 + 128 * N) / 128 = N := by omega
            rw [e1, e2]
            simp
theorem rdU_back {bs r : List UInt8} {most V : Nat} (h : rdU bs most = (0, V, r)) : bs = putU V ++ r := by
  have h2 : numGo bs 0 0 = (0, V, r) := by
    unfold rdU at h
    split at h
    · rename_i h1
      simp only [Prod.mk.injEq] at h
      exact absurd h.1 h1
    · split at h
      · simp at h
      · rename_i h1 _
        simp only [Prod.mk.injEq, true_and] at h
        have e : (numGo bs 0 0).1 = 0 := by simpa using h1
        rw [← h.1, ← h.2, ← e]
  obtain ⟨N, hV, hb, _⟩ := numGo_back 9 bs 0 0 V r rfl h2
  simp at hV
  subst hV
  exact hb
theorem unzz_zz (n : Nat) : unzz (zz n) = n := by
  unfold zz unzz
  split <;> split <;> omega
theorem be_back (l : List UInt8) (h : l.length = 8) : putF (be l) = l := by
  have hl : be l < 18446744073709551616 := Nat.lt_of_lt_of_le (be_lt l) (by rw [h]; decide)
  have inj : ∀ (n : Nat) (a b : List UInt8), a.length = n → b.length = n → be a = be b → a = b := by
    intro n
    induction n with
    | zero => intro a b ha hb _; rw [List.length_eq_zero_iff.1 ha, List.length_eq_zero_iff.1 hb]
    | succ n ih =>
      intro a b ha hb he
      rcases List.eq_nil_or_concat a with rfl | ⟨a', x, rfl⟩
      · simp at ha
      rcases List.eq_nil_or_concat b with rfl | ⟨b', y, rfl⟩
      · simp at hb
      rw [List.concat_eq_append, List.concat_eq_append, be_snoc, be_snoc] at he
      have hx := x.toNat_lt
      have hy := y.toNat_lt
      have e1 : x.toNat = y.toNat := by omega
      have e2 : be a' = be b' := by omega
      rw [ih a' b' (by simpa using ha) (by simpa using hb) e2, UInt8.toNat_inj.1 e1]
  exact inj 8 _ _ (putF_length _) h (be_putF _ hl)
theorem outcome_ok {er x : Int} {bs cs r : List UInt8} {v0 v u : Value} (h : outcome er x bs cs v0 v = (0, u, r)) : er = 0 ∧ x = 0 ∧ u = v ∧ r = cs := by
  unfold outcome at h
  split at h
  · rename_i h1
    simp only [Prod.mk.injEq] at h
    exact absurd h.1 h1
  · split at h
    · rename_i h1
      simp only [Prod.mk.injEq] at h
      exact absurd h.1 h1
    · rename_i h1 h2
      simp only [Prod.mk.injEq, true_and] at h
      exact ⟨by simpa using h1, by simpa using h2, h.1.symm, h.2.symm⟩
theorem rdByte_back {bs r : List UInt8} {er : Int} {n : Nat} (h : rdByte bs er = (0, .int .u8 n, r)) : er = 0 ∧ bs = UInt8.ofNat n :: r := by
  obtain ⟨h1, h2, h3, h4⟩ := outcome_ok h
  refine ⟨h1, ?_⟩
  cases bs with
  | nil => simp at h2
  | cons b t =>
    simp only [List.headD_cons, Value.int.injEq, true_and] at h3
    have : n = b.toNat := by omega
    rw [h4, this]
    simp
/-- What is read is what is written. -/
theorem read_back {bs r : List UInt8} {v : V} (h : partsOf bs = (0, v, r)) (hb : refBits v.f = v.f) : bs = writeOf v ++ r := by
  obtain ⟨k, hk, ek, eo⟩ := rdByte_form bs 0
  generalize ho : rdByte bs 0 = o at *
  obtain ⟨e1, v1, r1⟩ := o
  simp only [Prod.mk.injEq, true_and, and_true] at eo
  subst eo
  simp only at ek
  unfold partsOf at h
  rw [ho] at h
  simp only [ek] at h
  have zk : ∀ n : Nat, ((n : Int)).toNat = n := fun n => by omega
  split at h
  · rename_i h1
    obtain ⟨n, hn, en, eo2⟩ := rdByte_form r1 e1
    simp only [Prod.mk.injEq] at h
    obtain ⟨a1, a2, a3⟩ := h
    rw [a1, a3] at eo2
    obtain ⟨rfl, hr⟩ := rdByte_back eo2
    obtain ⟨_, hbs⟩ := rdByte_back ho
    subst a2
    rw [en, hbs, hr, h1]
    simp [writeOf]
  split at h
  · rename_i _ h1
    obtain ⟨n, hn0, hn1, en, eo2⟩ := rdInt_form r1 e1
    simp only [Prod.mk.injEq] at h
    obtain ⟨a1, a2, a3⟩ := h
    rw [a1, a3] at eo2
    obtain ⟨rfl, h2, h3, h4⟩ := outcome_ok eo2
    obtain ⟨_, hbs⟩ := rdByte_back ho
    subst a2
    simp only [Value.int.injEq, true_and] at h3
    have e3 : rdU r1 18446744073709551615 = (0, (rdU r1 18446744073709551615).2.1, r) := by rw [h4, ← h2]
    have e4 := rdU_back e3
    rw [hbs, en, h1, h3]
    simp only [writeOf]
    rw [unzz_zz]
    simpa using e4
  split at h
  · rename_i _ _ h1
    obtain ⟨n, hn, en, eo2⟩ := rdFixed_form r1 e1
    simp only [Prod.mk.injEq] at h
    obtain ⟨a1, a2, a3⟩ := h
    rw [a1, a3] at eo2
    obtain ⟨rfl, h2, h3, h4⟩ := outcome_ok eo2
    obtain ⟨_, hbs⟩ := rdByte_back ho
    subst a2
    simp only [Value.int.injEq, true_and] at h3
    simp only at hb
    have hl : ¬ r1.length < 8 := by intro h; rw [if_pos h] at h2; simp at h2
    have e3 : n = be (r1.take 8) := by omega
    have e4 : putF n = r1.take 8 := by rw [e3]; exact be_back _ (by simp; omega)
    rw [hbs, h1]
    simp only [writeOf]
    rw [hb, en, e4, h4]
    simp
  split at h
  · rename_i _ _ _ h1
    obtain ⟨s, hs, en, eo2⟩ := rdText_form r1 e1
    simp only [Prod.mk.injEq] at h
    obtain ⟨a1, a2, a3⟩ := h
    rw [a1, a3] at eo2
    obtain ⟨rfl, h2, h3, h4⟩ := outcome_ok eo2
    obtain ⟨_, hbs⟩ := rdByte_back ho
    subst a2
    simp only [Value.string.injEq] at h3
    have h0 : (rdU r1 4096).1 = 0 := by
      by_cases h0 : (rdU r1 4096).1 = 0
      · exact h0
      · rw [if_pos h0] at h2; exact absurd h2 h0
    have hlen : ¬ (rdU r1 4096).2.2.length < (rdU r1 4096).2.1 := by
      intro h; rw [if_neg (by simpa using h0), if_pos h] at h2; simp at h2
    have e3 : rdU r1 4096 = (0, (rdU r1 4096).2.1, (rdU r1 4096).2.2) := by rw [← h0]
    have e4 := rdU_back e3
    have e5 : s.data.toList = (rdU r1 4096).2.2.take (rdU r1 4096).2.1 := by rw [h3]
    have e6 : s.size = (rdU r1 4096).2.1 := by
      show s.data.size = _
      rw [← Array.length_toList, e5]; simp; omega
    rw [hbs, en, h1]
    simp only [writeOf, putT]
    rw [e6, e5, h4]
    simp only [show ((4 : Int) = 1) = False from by simp, show ((4 : Int) = 2) = False from by simp, show ((4 : Int) = 3) = False from by simp, if_false, if_true, List.cons_append, List.append_assoc, List.take_append_drop]
    rw [← e4]; rfl
  · rename_i n1 n2 n3 n4
    simp only [Prod.mk.injEq] at h
    obtain ⟨rfl, a2, rfl⟩ := h
    obtain ⟨_, hbs⟩ := rdByte_back ho
    subst a2
    rw [hbs]
    simp only [writeOf]
    rw [if_neg (by omega), if_neg (by omega), if_neg (by omega), if_neg (by omega)]
    simp
/-- What is read fits. -/
theorem parts_fits (bs : List UInt8) : (partsOf bs).2.1.fits ∧ (partsOf bs).2.1.s.size ≤ 4096 := by
  obtain ⟨k, hk, ek, eo⟩ := rdByte_form bs 0
  unfold partsOf
  split
  · obtain ⟨n, hn, en, eo2⟩ := rdByte_form (rdByte bs 0).2.2 (rdByte bs 0).1
    rw [en]
    exact ⟨by constructor <;> first | exact Nat.zero_le _ | (simp only; omega), Nat.zero_le _⟩
  split
  · obtain ⟨n, hn0, hn1, en, eo2⟩ := rdInt_form (rdByte bs 0).2.2 (rdByte bs 0).1
    rw [en]
    exact ⟨by constructor <;> first | exact Nat.zero_le _ | (simp only; omega), Nat.zero_le _⟩
  split
  · obtain ⟨n, hn, en, eo2⟩ := rdFixed_form (rdByte bs 0).2.2 (rdByte bs 0).1
    rw [en]
    exact ⟨by constructor <;> first | exact Nat.zero_le _ | (simp only; omega), Nat.zero_le _⟩
  split
  · obtain ⟨s, hs, en, eo2⟩ := rdText_form (rdByte bs 0).2.2 (rdByte bs 0).1
    rw [en]
    exact ⟨by constructor <;> first | exact Nat.zero_le _ | (simp only; omega), hs⟩
  · rw [ek]
    exact ⟨by constructor <;> first | exact Nat.zero_le _ | (simp only; omega), Nat.zero_le _⟩
end Go.Proofs.YtkiicdleoniioaaDoor

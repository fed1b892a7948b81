/- The contracts of wire's Writer: Uint, Int. -/
import Derived.Test.YtdblfabbmpdoiaaGreatWriter
import Derived.Test.YtdblfabbmpdoiaaGreatPart6
import Derived.Test.YtdblfabbmpdoiaaGreatVecM
namespace Go.Proofs.YtdblfabbmpdoiaaGreat
open Go.RowKit
set_option linter.unusedVariables false

set_option maxRecDepth 100000 in
set_option maxHeartbeats 400000 in
theorem wuint_any (p : Nat) (bs : List UInt8) (n : Nat) (hn : n < 18446744073709551616) (w : World) (h : Wr w p bs) (hl : bs.length + 10 ≤ 140737488355328) (x : Int) (hx : x = n) :
    Calls Tryz.prog 27 #[.pointer (some ⟨p, 0, none⟩), .int .u64 x] w fun e w' => e = .returned (.tuple #[]) ∧ WrPost p (bs ++ putU n) w w' := by
  subst hx
  go_enter Tryz.func27, Tryz.ntmps27
  go_wp2_with fail
  go_loopw [1] (fun v wr => ∃ N f : Nat, ∃ cs : List UInt8, v = .int .u64 N ∧ N < 2 * 128 ^ f ∧ f ≤ 9 ∧ N < 18446744073709551616 ∧ cs.length + f ≤ bs.length + 9 ∧ cs ++ putGo f N = bs ++ putU n ∧ WrPost p cs w wr) (fun v _ => (intOf v).toNat)
  case atStart => exact ⟨n, 9, bs, rfl, by have : (128 : Nat) ^ 9 = 9223372036854775808 := by decide
                                           omega, by omega, hn, by omega, rfl, WrPost.refl h⟩
  case round =>
    obtain ⟨N, f, cs, rfl, hf, hf9, hN, hlen, he, hW⟩ := hrel
    have HE : Hid (cs ++ putGo f N = bs ++ putU n) := he
    have HW : Hid (WrPost p cs w wr) := hW
    clear he hW h
    by_cases hlt : N < 128
    · go_wp2_with fail
      refine (wbyte_any p cs (UInt8.ofNat N) _ (u8_last N hlt) wr HW.out.is (by omega)).mono ?_
      rintro e w1 ⟨rfl, hW1⟩
      have HQ : Hid (WrPost p (bs ++ putU n) w w1) := by
        have := HW.out.trans hW1
        rw [← putGo_last (f := f) hlt, HE.out] at this
        exact this
      clear hW1
      go_wp2_with fail
      go_end0
      exact ⟨rfl, HQ.out⟩
    · obtain ⟨f, rfl⟩ : ∃ k, f = k + 1 := by
        cases f with
        | zero => exact absurd hf (by omega)
        | succ k => exact ⟨k, rfl⟩
      go_wp2_with fail
      refine (wbyte_any p cs (UInt8.ofNat (N % 128 + 128)) _ (u8_more N) wr HW.out.is (by omega)).mono ?_
      rintro e w1 ⟨rfl, hW1⟩
      have HQ : Hid (WrPost p (cs ++ [UInt8.ofNat (N % 128 + 128)]) w w1) := HW.out.trans hW1
      clear hW1
      go_wp2_with fail
      go_roundw
      case rel =>
        refine ⟨N / 128, f, cs ++ [UInt8.ofNat (N % 128 + 128)], by go_num, ?_, by omega, by omega, by simp; omega, ?_, HQ.out⟩
        · rw [Nat.pow_succ] at hf; omega
        · rw [List.append_assoc, List.singleton_append, ← putGo_more hlt, HE.out]
      case measure => simp [intOf]; omega
end Go.Proofs.YtdblfabbmpdoiaaGreat

/- A vector's bytes, as lists. -/
namespace Go.Proofs.YtdblfabbmpdoiaaGreat
set_option linter.unusedVariables false
set_option linter.unusedSimpArgs false

/-- Clients by how far each is from the one ahead, and their clocks. -/
def encC : Int → List Ck → List UInt8
  | _, [] => []
  | a, x :: l => putU (x.c - a).toNat ++ (putU x.k.toNat ++ encC x.c l)
def lastC : Int → List Ck → Int
  | a, [] => a
  | _, x :: l => lastC x.c l
/-- The whole. -/
def encV (l : List Ck) : List UInt8 := putU l.length ++ encC 0 l
theorem encC_snoc (a : Int) (l : List Ck) (x : Ck) : encC a (l ++ [x]) = encC a l ++ (putU (x.c - lastC a l).toNat ++ putU x.k.toNat) := by
  induction l generalizing a with
  | nil => simp [encC, lastC]
  | cons y l ih => simp [encC, lastC, ih]
theorem lastC_snoc (a : Int) (l : List Ck) (x : Ck) : lastC a (l ++ [x]) = x.c := by
  induction l generalizing a with
  | nil => rfl
  | cons y l ih => exact ih y.c
theorem lastC_mem (a : Int) (l : List Ck) (h : l ≠ []) : ∃ y ∈ l, lastC a l = y.c := by
  induction l generalizing a with
  | nil => exact absurd rfl h
  | cons y l ih =>
    cases l with
    | nil => exact ⟨y, by simp, rfl⟩
    | cons z l =>
      obtain ⟨q, hq, e⟩ := ih y.c (by simp)
      exact ⟨q, List.mem_cons_of_mem _ hq, e⟩
/-- Clients rise: each is above the one ahead. -/
theorem lastC_lt {l : List Ck} (ha : l.Pairwise (fun a b => a.c < b.c)) (ho : ∀ x ∈ l, x.ok = true) {j : Nat} (hj : j < l.length) : 0 ≤ lastC 0 (l.take j) ∧ lastC 0 (l.take j) < l[j].c := by
  have hx := Ck.ok_iff.1 (ho l[j] (List.getElem_mem hj))
  by_cases h : l.take j = []
  · rw [h]; show 0 ≤ (0 : Int) ∧ (0 : Int) < _; omega
  · obtain ⟨y, hy, e⟩ := lastC_mem 0 (l.take j) h
    have hyo := Ck.ok_iff.1 (ho y (List.mem_of_mem_take hy))
    obtain ⟨i, hi, rfl⟩ := List.mem_iff_getElem.1 hy
    rw [List.getElem_take] at *
    have hi' : i < j := by rw [List.length_take] at hi; omega
    have := List.pairwise_iff_getElem.1 ha i j (by omega) hj hi'
    omega
theorem putU_len (n : Nat) : (putU n).length ≤ 10 := putGo_length 9 n
theorem encC_len (a : Int) (l : List Ck) : (encC a l).length ≤ 20 * l.length := by
  induction l generalizing a with
  | nil => simp [encC]
  | cons x l ih =>
    have h1 := putU_len (x.c - a).toNat
    have h2 := putU_len x.k.toNat
    have := ih x.c
    simp only [encC, List.length_append, List.length_cons]
    omega
theorem encV_len (l : List Ck) : (encV l).length ≤ 10 + 20 * l.length := by
  have h1 := putU_len l.length
  have := encC_len 0 l
  simp only [encV, List.length_append]
  omega
end Go.Proofs.YtdblfabbmpdoiaaGreat

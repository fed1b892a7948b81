/- More of rows of texts: their order, their parts, their pieces. -/
import Derived.Test.YtmknkecaeagmbaaGreatDoorJoinM
import Derived.Test.YtmknkecaeagmbaaGreatDoorPart12
import Derived.Test.YtmknkecaeagmbaaGreatDoorPartO
namespace Go.Proofs.YtmknkecaeagmbaaGreatDoor
open Go.RowKit
set_option linter.unusedVariables false
set_option linter.unusedSimpArgs false

theorem Chain.above {h : O} : ∀ {n : Nat} {l : List O}, Chain h n l → ∀ b ∈ l, b.c = h.c ∧ h.k + (n : Int) ≤ b.k
  | _, [], _, b, hb => by cases hb
  | n, x :: l, hc, b, hb => by
    rcases List.mem_cons.1 hb with rfl | hb
    · have e1 : b.c = h.c := by rw [hc.1]; rfl
      have e2 : b.k = h.k + (n : Int) := by rw [hc.1]; rfl
      exact ⟨e1, by omega⟩
    · have := Chain.above hc.2.2 b hb
      refine ⟨this.1, ?_⟩
      have := this.2
      push_cast at this
      omega
theorem Chain.order {h : O} : ∀ {n : Nat} {l : List O}, Chain h n l → l.Pairwise idLt
  | _, [], _ => List.Pairwise.nil
  | n, x :: l, hc => by
    refine List.pairwise_cons.2 ⟨fun b hb => ?_, Chain.order hc.2.2⟩
    have h1 := Chain.above hc.2.2 b hb
    have e1 : x.c = h.c := by rw [hc.1]; rfl
    have e2 : x.k = h.k + (n : Int) := by rw [hc.1]; rfl
    have n1 := hc.2.1.n1
    unfold idLt
    have := h1.2
    push_cast at this
    omega
theorem row_order {a : O} {t : List O} (ha : TextO a) (hc : Chain a (lenO a) t) : (a :: t).Pairwise idLt := by
  refine List.pairwise_cons.2 ⟨fun b hb => ?_, Chain.order hc⟩
  have h1 := Chain.above hc b hb
  have n1 := ha.n1
  unfold idLt
  omega
/-- Each goes on where the one ahead ends. -/
def GoAll : O → List O → Prop
  | _, [] => True
  | p, b :: l => goesB p b = true ∧ GoAll b l
theorem GoAll.get {p : O} : ∀ {l : List O}, GoAll p l → ∀ j (h : j + 1 < (p :: l).length), goesB (p :: l)[j] (p :: l)[j + 1] = true
  | [], _, j, h => by simp at h
  | b :: l, hg, 0, h => hg.1
  | b :: l, hg, j + 1, h => GoAll.get (p := b) hg.2 j (by simpa using h)
theorem Chain.goes {h : O} : ∀ {n : Nat} {l : List O} (p : O), Chain h n l → TextO p → p.c = h.c → p.rc = h.rc → p.rk = h.rk → p.k + (lenO p : Int) = h.k + (n : Int) → GoAll p l
  | _, [], _, _, _, _, _, _, _ => trivial
  | n, b :: l, p, hc, hp, h1, h2, h3, h4 => by
    have e1 : b.c = h.c := by rw [hc.1]; rfl
    have e2 : b.k = h.k + (n : Int) := by rw [hc.1]; rfl
    have e3 : b.lc = h.c := by rw [hc.1]; rfl
    have e4 : b.lk = h.k + (n : Int) - 1 := by rw [hc.1]; rfl
    have e5 : b.rc = h.rc := by rw [hc.1]; rfl
    have e6 : b.rk = h.rk := by rw [hc.1]; rfl
    have k2 := hp.k2
    have c0 := hp.c0
    have n1 := hp.n1
    have w1 : endO p = p.k + (lenO p : Int) := wrap_u64_small _ (by omega) (by omega)
    have w2 : IntKind.u64.wrap (endO p - 1) = h.k + (n : Int) - 1 := by rw [w1, h4]; exact wrap_u64_small _ (by omega) (by omega)
    refine ⟨?_, Chain.goes b hc.2.2 hc.2.1 e1 e5 e6 (by rw [e2]; push_cast; omega)⟩
    unfold goesB
    rw [w2, w1, hp.kind, hc.2.1.kind, e1, e2, e3, e4, e5, e6, h1, h2, h3]
    have d1 : decide (p.k < p.k + (lenO p : Int)) = true := decide_eq_true (by omega)
    have d2 : (h.k + (n : Int) == p.k + (lenO p : Int)) = true := by rw [h4]; exact beq_self_eq_true _
    rw [d1, d2]
    simp
theorem row_goes {a : O} {t : List O} (ha : TextO a) (hc : Chain a (lenO a) t) : ∀ j (h : j + 1 < (a :: t).length), goesB (a :: t)[j] (a :: t)[j + 1] = true :=
  GoAll.get (Chain.goes a hc ha rfl rfl rfl rfl)
theorem chunks_above : ∀ (f : Nat) (o : O) (R : List Nat), ∀ b ∈ chunks f o R, b.c = o.c ∧ o.k ≤ b.k
  | 0, _, _, b, hb => by cases hb
  | f + 1, o, R, b, hb => by
    rw [chunks] at hb
    split at hb
    · obtain rfl := List.mem_singleton.1 hb
      exact ⟨rfl, Int.le_refl _⟩
    · rcases List.mem_cons.1 hb with rfl | hb
      · exact ⟨rfl, Int.le_refl _⟩
      · have h1 := chunks_above f _ _ b hb
        refine ⟨h1.1, ?_⟩
        have h2 : (o.onward 4096).k = o.k + ((4096 : Nat) : Int) := rfl
        have := h1.2
        omega
theorem chunks_order : ∀ (f : Nat) (o : O) (R : List Nat), (chunks f o R).Pairwise idLt
  | 0, _, _ => List.Pairwise.nil
  | f + 1, o, R => by
    rw [chunks]
    split
    · exact List.pairwise_singleton _ _
    · refine List.pairwise_cons.2 ⟨fun b hb => ?_, chunks_order f _ _⟩
      have h1 := chunks_above f _ _ b hb
      have h2 : (o.onward 4096).k = o.k + ((4096 : Nat) : Int) := rfl
      have h3 : (o.withT (R.take 4096)).k = o.k := rfl
      have h4 : (o.withT (R.take 4096)).c = o.c := rfl
      have h5 : (o.onward 4096).c = o.c := rfl
      unfold idLt
      have := h1.1
      have := h1.2
      omega
theorem chunks_len : ∀ (f : Nat) (o : O) (R : List Nat), (chunks f o R).length ≤ f
  | 0, _, _ => Nat.le_refl _
  | f + 1, o, R => by
    rw [chunks]
    split
    · simp
    · have := chunks_len f (o.onward 4096) (R.drop 4096)
      simp only [List.length_cons]
      omega
theorem chunks_ne (f : Nat) (o : O) (R : List Nat) : chunks (f + 1) o R ≠ [] := by
  rw [chunks]
  split <;> simp
/-- A text of so many runes. -/
theorem enc_bytes (R : List Nat) (h1 : 1 ≤ R.length) (h2 : R.length ≤ 4096) : (strOf (encAll R)).data.toList ≠ [] ∧ (strOf (encAll R)).size ≤ 1000000 := by
  have := encAll_len R
  have e : (strOf (encAll R)).data.toList = encAll R := by unfold strOf; simp
  have e2 : (strOf (encAll R)).size = (encAll R).length := by unfold strOf; simp [ByteArray.size]
  rw [e, e2]
  refine ⟨fun h => ?_, by omega⟩
  have h3 := this.1
  rw [h, List.length_nil] at h3
  omega
theorem parts_texts (k0 : Int) {o : O} (h : TextO o) : ∀ p ∈ partsOf k0 o, p.tx.data.toList ≠ [] ∧ p.tx.size ≤ 1000000 := by
  have hb := ahead_bd k0 o
  have n1 := h.n1
  have n2 := h.n2
  obtain ⟨e, he⟩ : ∃ e : Nat, endP k0 o = (e : Int) := ⟨(endP k0 o).toNat, by unfold endP; omega⟩
  have he1 : 1 ≤ e ∧ e ≤ lenO o := by unfold endP at he; omega
  have hl := h.len
  intro p hp
  unfold partsOf at hp
  rw [he, (h.cut0 e he1.1 he1.2).1] at hp
  rcases List.mem_cons.1 hp with rfl | hp
  · exact enc_bytes _ (by rw [List.length_take]; omega) (by rw [List.length_take]; omega)
  · by_cases hlt : e < lenO o
    · have c1 := h.cut1 e he1.1 hlt
      rw [c1.1, c1.2] at hp
      obtain rfl := List.mem_singleton.1 hp
      exact enc_bytes _ (by rw [List.length_drop]; omega) (by rw [List.length_drop]; omega)
    · have : e = lenO o := by omega
      rw [this, h.cutn.2] at hp
      cases hp
theorem Chain.texts {h : O} : ∀ {n : Nat} {l : List O}, Chain h n l → ∀ b ∈ l, TextO b
  | _, [], _, b, hb => by cases hb
  | n, x :: l, hc, b, hb => by
    rcases List.mem_cons.1 hb with rfl | hb
    · exact hc.2.1
    · exact Chain.texts hc.2.2 b hb
theorem row_texts (k0 : Int) {a : O} {t : List O} (ha : TextO a) (hc : Chain a (lenO a) t) : ∀ p ∈ partsL k0 (a :: t), p.tx.data.toList ≠ [] ∧ p.tx.size ≤ 1000000 := by
  intro p hp
  obtain ⟨o, ho, hq⟩ := List.mem_flatMap.1 hp
  rcases List.mem_cons.1 ho with rfl | ho
  · exact parts_texts k0 ha p hq
  · exact parts_texts k0 (hc.texts o ho) p hq
end Go.Proofs.YtmknkecaeagmbaaGreatDoor

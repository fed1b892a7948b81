/- Values that are taken; a Writer made just now. -/
import Derived.Test.YtaihofkmcpcjeaaDoorTextLaws2
import Derived.Test.YtaihofkmcpcjeaaDoorVWrite
import Derived.Test.YtaihofkmcpcjeaaDoorRef2c
import Derived.Test.YtaihofkmcpcjeaaDoorClone
namespace Go.Proofs.YtaihofkmcpcjeaaDoor
open Go.RowKit
set_option linter.unusedVariables false
set_option linter.unusedSimpArgs false
set_option maxRecDepth 100000

theorem taken_of (v : V) (hf : v.fits) (h : refCheck v = 0) : v.taken := by
  obtain ⟨k, n, f, s⟩ := v
  have hv : vOk ⟨k, n, f, s⟩ = true := by
    unfold refCheck at h
    cases hv : vOk ⟨k, n, f, s⟩
    · rw [hv] at h; simp at h
    · rfl
  have hs : s.toList.isEmpty = true → s = ⟨#[]⟩ := by
    intro e
    rw [ByteArray.toList_eq] at e
    have : s.data.toList = [] := by simpa using e
    exact ByteArray.ext (Array.ext' this)
  unfold vOk at hv
  simp only at hv
  split at hv
  · rename_i hk
    simp only [Bool.and_eq_true, beq_iff_eq] at hv
    exact ⟨hf, by simp only; omega, fun _ _ => hv.1.1, fun e => by simp only at e; omega, fun _ => by simp only; omega, fun _ => hs hv.2⟩
  split at hv
  · rename_i hk hk1
    simp only [Bool.and_eq_true, beq_iff_eq, Bool.or_eq_true] at hv
    exact ⟨hf, by simp only; omega, fun e => absurd hk1 e, fun _ => hv.1.1, fun _ => by simp only; omega, fun _ => hs hv.2⟩
  split at hv
  · rename_i hk hk1 hk2
    simp only [Bool.and_eq_true, beq_iff_eq] at hv
    exact ⟨hf, by simp only; omega, fun _ e => absurd hk2 e, fun e => absurd e hk1, fun _ => by simp only; omega, fun _ => hs hv.2⟩
  split at hv
  · rename_i hk hk1 hk2 hk3
    simp only [Bool.and_eq_true, beq_iff_eq] at hv
    exact ⟨hf, by simp only; omega, fun _ _ => hv.1, fun e => absurd e hk1, fun e => absurd hk3 e, fun _ => hs hv.2⟩
  split at hv
  · rename_i hk hk1 hk2 hk3 hk4
    simp only [Bool.and_eq_true, beq_iff_eq] at hv
    exact ⟨hf, by simp only; omega, fun _ _ => hv.1.1.1, fun e => absurd e hk1, fun _ => by simp only; omega, fun e => absurd hk4 e⟩
  · cases hv
theorem V.taken.good {v : V} (h : v.taken) : v.good := ⟨h.fit, h.kind, h.bool⟩
theorem putGo_len (f n : Nat) : (putGo f n).length ≤ f + 1 := by
  induction f generalizing n with
  | zero => simp [putGo]
  | succ f ih =>
    simp only [putGo]; split
    · simp
    · simp only [List.length_cons]; have := ih (n / 128); omega
theorem writeOf_len (v : V) : (writeOf v).length ≤ 20 + v.s.size := by
  unfold writeOf
  simp only [List.length_cons]
  split
  · simp; omega
  split
  · have := putGo_len 9 (unzz v.n); unfold putU; omega
  split
  · rw [putF_length]; omega
  split
  · unfold putT putU
    rw [List.length_append]
    have := putGo_len 9 v.s.size
    have e : v.s.data.toList.length = v.s.size := rfl
    omega
  · simp; omega

theorem boxes2_put {S : Nat → Prop} {w0 w w' : World} {A B : Nat} {k n k2 n2 : Int} {f f2 : Nat} {s s2 : ByteArray}
    (h : w.cell? ⟨A, 0, none⟩ = some (.int .i64 k) ∧ w.cell? ⟨A, 1, none⟩ = some (.int .i64 n) ∧ w.cell? ⟨A, 2, none⟩ = some (.float .f64 f) ∧ w.cell? ⟨A, 3, none⟩ = some (.string s) ∧ w.cell? ⟨B, 0, none⟩ = some (.int .i64 k2) ∧ w.cell? ⟨B, 1, none⟩ = some (.int .i64 n2) ∧ w.cell? ⟨B, 2, none⟩ = some (.float .f64 f2) ∧ w.cell? ⟨B, 3, none⟩ = some (.string s2) ∧ Hid (Touch (fun _ => False) w0 w)) (hT : Touch S w w') (hA : ¬ S A) (hB : ¬ S B) (h0 : Touch (fun _ => False) w0 w') :
    w'.cell? ⟨A, 0, none⟩ = some (.int .i64 k) ∧ w'.cell? ⟨A, 1, none⟩ = some (.int .i64 n) ∧ w'.cell? ⟨A, 2, none⟩ = some (.float .f64 f) ∧ w'.cell? ⟨A, 3, none⟩ = some (.string s) ∧ w'.cell? ⟨B, 0, none⟩ = some (.int .i64 k2) ∧ w'.cell? ⟨B, 1, none⟩ = some (.int .i64 n2) ∧ w'.cell? ⟨B, 2, none⟩ = some (.float .f64 f2) ∧ w'.cell? ⟨B, 3, none⟩ = some (.string s2) ∧ Hid (Touch (fun _ => False) w0 w') := by
  have go : ∀ (b o : Nat) (v : Value), ¬ S b → w.cell? ⟨b, o, none⟩ = some v → w'.cell? ⟨b, o, none⟩ = some v := fun b o v hb hv => (hT.cell (World.block_lt_of_cell? _ _ hv) hb o).trans hv
  obtain ⟨h1, h2, h3, h4, h5, h6, h7, h8, h9⟩ := h
  exact ⟨go _ _ _ hA h1, go _ _ _ hA h2, go _ _ _ hA h3, go _ _ _ hA h4, go _ _ _ hB h5, go _ _ _ hB h6, go _ _ _ hB h7, go _ _ _ hB h8, h0⟩
theorem wfoot_ne {w : World} {p q : Nat} {bs : List UInt8} {u : Value} (h : Wr w p bs) (hq : w.heap[q]? = some (.cells #[u] 42 (0, 0))) (hne : q ≠ p) : ¬ wfoot w p q := by
  obtain ⟨v, hp, hown⟩ := h
  rintro (e | ⟨x, hx, he⟩)
  · exact hne e
  · rw [cell_of_block hp] at hx
    simp at hx; subst hx
    exact row_ne hq hown he rfl

theorem Wr.new2 (w : World) : Wr (w.alloc (.cells #[.slice none 0 0] 42)) w.heap.size [] := ⟨_, heap_alloc_new _ _, World.ownsRow_nil _ _ _ _⟩
theorem wfoot_nil {w : World} {p : Nat} (h : w.heap[p]? = some (.cells #[.slice none 0 0] 42 (0, 0))) {k : Nat} (hf : wfoot w p k) : k = p := by
  rcases hf with e | ⟨v, hv, he⟩
  · exact e
  · rw [cell_of_block h] at hv
    simp at hv; subst hv; simp [Value.ownBlock] at he
theorem Lies.alloc' {w : World} {g : Nat} {ao : Option Addr} {bs : List UInt8} (h : Lies w g ao bs) (o : Obj) : Lies (w.alloc o) g ao bs :=
  h.keep fun e => Below.heap_alloc _ _ _ (h.lt e)
end Go.Proofs.YtaihofkmcpcjeaaDoor

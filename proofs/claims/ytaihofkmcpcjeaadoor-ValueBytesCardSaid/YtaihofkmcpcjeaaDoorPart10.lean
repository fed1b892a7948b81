/- Boxes that hold values, and nothing touched since. It speaks of no function. -/
import Derived.Test.YtaihofkmcpcjeaaDoorPart3
import Derived.Test.YtaihofkmcpcjeaaDoorPart4
namespace Go.Proofs.YtaihofkmcpcjeaaDoor
open Go.RowKit
set_option linter.unusedVariables false

theorem boxes1_keep {w0 w w' : World} {A : Nat} {k n : Int} {f : Nat} {s : ByteArray}
    (h : w.cell? ⟨A, 0, none⟩ = some (.int .i64 k) ∧ w.cell? ⟨A, 1, none⟩ = some (.int .i64 n) ∧ w.cell? ⟨A, 2, none⟩ = some (.float .f64 f) ∧ w.cell? ⟨A, 3, none⟩ = some (.string s) ∧ Hid (Touch (fun _ => False) w0 w)) (hT : Touch (fun _ => False) w w') :
    w'.cell? ⟨A, 0, none⟩ = some (.int .i64 k) ∧ w'.cell? ⟨A, 1, none⟩ = some (.int .i64 n) ∧ w'.cell? ⟨A, 2, none⟩ = some (.float .f64 f) ∧ w'.cell? ⟨A, 3, none⟩ = some (.string s) ∧ Hid (Touch (fun _ => False) w0 w') := by
  have go : ∀ (b o : Nat) (v : Value), w.cell? ⟨b, o, none⟩ = some v → w'.cell? ⟨b, o, none⟩ = some v := fun b o v hv => (hT.cell (World.block_lt_of_cell? _ _ hv) id o).trans hv
  obtain ⟨h1, h2, h3, h4, h5⟩ := h
  exact ⟨go _ _ _ h1, go _ _ _ h2, go _ _ _ h3, go _ _ _ h4, h5.out.trans hT⟩
theorem boxes2_keep {w0 w w' : World} {A B : Nat} {k n k2 n2 : Int} {f f2 : Nat} {s s2 : ByteArray}
    (h : w.cell? ⟨A, 0, none⟩ = some (.int .i64 k) ∧ w.cell? ⟨A, 1, none⟩ = some (.int .i64 n) ∧ w.cell? ⟨A, 2, none⟩ = some (.float .f64 f) ∧ w.cell? ⟨A, 3, none⟩ = some (.string s) ∧ w.cell? ⟨B, 0, none⟩ = some (.int .i64 k2) ∧ w.cell? ⟨B, 1, none⟩ = some (.int .i64 n2) ∧ w.cell? ⟨B, 2, none⟩ = some (.float .f64 f2) ∧ w.cell? ⟨B, 3, none⟩ = some (.string s2) ∧ Hid (Touch (fun _ => False) w0 w)) (hT : Touch (fun _ => False) w w') :
    w'.cell? ⟨A, 0, none⟩ = some (.int .i64 k) ∧ w'.cell? ⟨A, 1, none⟩ = some (.int .i64 n) ∧ w'.cell? ⟨A, 2, none⟩ = some (.float .f64 f) ∧ w'.cell? ⟨A, 3, none⟩ = some (.string s) ∧ w'.cell? ⟨B, 0, none⟩ = some (.int .i64 k2) ∧ w'.cell? ⟨B, 1, none⟩ = some (.int .i64 n2) ∧ w'.cell? ⟨B, 2, none⟩ = some (.float .f64 f2) ∧ w'.cell? ⟨B, 3, none⟩ = some (.string s2) ∧ Hid (Touch (fun _ => False) w0 w') := by
  have go : ∀ (b o : Nat) (v : Value), w.cell? ⟨b, o, none⟩ = some v → w'.cell? ⟨b, o, none⟩ = some v := fun b o v hv => (hT.cell (World.block_lt_of_cell? _ _ hv) id o).trans hv
  obtain ⟨h1, h2, h3, h4, h5, h6, h7, h8, h9⟩ := h
  exact ⟨go _ _ _ h1, go _ _ _ h2, go _ _ _ h3, go _ _ _ h4, go _ _ _ h5, go _ _ _ h6, go _ _ _ h7, go _ _ _ h8, h9.out.trans hT⟩
theorem boxes3_keep {w0 w w' : World} {A B C : Nat} {k n k2 n2 k3 n3 : Int} {f f2 f3 : Nat} {s s2 s3 : ByteArray}
    (h : w.cell? ⟨A, 0, none⟩ = some (.int .i64 k) ∧ w.cell? ⟨A, 1, none⟩ = some (.int .i64 n) ∧ w.cell? ⟨A, 2, none⟩ = some (.float .f64 f) ∧ w.cell? ⟨A, 3, none⟩ = some (.string s) ∧ w.cell? ⟨B, 0, none⟩ = some (.int .i64 k2) ∧ w.cell? ⟨B, 1, none⟩ = some (.int .i64 n2) ∧ w.cell? ⟨B, 2, none⟩ = some (.float .f64 f2) ∧ w.cell? ⟨B, 3, none⟩ = some (.string s2) ∧ w.cell? ⟨C, 0, none⟩ = some (.int .i64 k3) ∧ w.cell? ⟨C, 1, none⟩ = some (.int .i64 n3) ∧ w.cell? ⟨C, 2, none⟩ = some (.float .f64 f3) ∧ w.cell? ⟨C, 3, none⟩ = some (.string s3) ∧ Hid (Touch (fun _ => False) w0 w)) (hT : Touch (fun _ => False) w w') :
    w'.cell? ⟨A, 0, none⟩ = some (.int .i64 k) ∧ w'.cell? ⟨A, 1, none⟩ = some (.int .i64 n) ∧ w'.cell? ⟨A, 2, none⟩ = some (.float .f64 f) ∧ w'.cell? ⟨A, 3, none⟩ = some (.string s) ∧ w'.cell? ⟨B, 0, none⟩ = some (.int .i64 k2) ∧ w'.cell? ⟨B, 1, none⟩ = some (.int .i64 n2) ∧ w'.cell? ⟨B, 2, none⟩ = some (.float .f64 f2) ∧ w'.cell? ⟨B, 3, none⟩ = some (.string s2) ∧ w'.cell? ⟨C, 0, none⟩ = some (.int .i64 k3) ∧ w'.cell? ⟨C, 1, none⟩ = some (.int .i64 n3) ∧ w'.cell? ⟨C, 2, none⟩ = some (.float .f64 f3) ∧ w'.cell? ⟨C, 3, none⟩ = some (.string s3) ∧ Hid (Touch (fun _ => False) w0 w') := by
  have go : ∀ (b o : Nat) (v : Value), w.cell? ⟨b, o, none⟩ = some v → w'.cell? ⟨b, o, none⟩ = some v := fun b o v hv => (hT.cell (World.block_lt_of_cell? _ _ hv) id o).trans hv
  obtain ⟨h1, h2, h3, h4, h5, h6, h7, h8, h9, h10, h11, h12, h13⟩ := h
  exact ⟨go _ _ _ h1, go _ _ _ h2, go _ _ _ h3, go _ _ _ h4, go _ _ _ h5, go _ _ _ h6, go _ _ _ h7, go _ _ _ h8, go _ _ _ h9, go _ _ _ h10, go _ _ _ h11, go _ _ _ h12, h13.out.trans hT⟩

theorem boxes1_touch {w0 w : World} {A : Nat} {k n : Int} {f : Nat} {s : ByteArray}
    (h : w.cell? ⟨A, 0, none⟩ = some (.int .i64 k) ∧ w.cell? ⟨A, 1, none⟩ = some (.int .i64 n) ∧ w.cell? ⟨A, 2, none⟩ = some (.float .f64 f) ∧ w.cell? ⟨A, 3, none⟩ = some (.string s) ∧ Hid (Touch (fun _ => False) w0 w)) : Touch (fun _ => False) w0 w := h.2.2.2.2.out
theorem boxes2_touch {w0 w : World} {A B : Nat} {k n k2 n2 : Int} {f f2 : Nat} {s s2 : ByteArray}
    (h : w.cell? ⟨A, 0, none⟩ = some (.int .i64 k) ∧ w.cell? ⟨A, 1, none⟩ = some (.int .i64 n) ∧ w.cell? ⟨A, 2, none⟩ = some (.float .f64 f) ∧ w.cell? ⟨A, 3, none⟩ = some (.string s) ∧ w.cell? ⟨B, 0, none⟩ = some (.int .i64 k2) ∧ w.cell? ⟨B, 1, none⟩ = some (.int .i64 n2) ∧ w.cell? ⟨B, 2, none⟩ = some (.float .f64 f2) ∧ w.cell? ⟨B, 3, none⟩ = some (.string s2) ∧ Hid (Touch (fun _ => False) w0 w)) : Touch (fun _ => False) w0 w := h.2.2.2.2.2.2.2.2.out
theorem boxes3_touch {w0 w : World} {A B C : Nat} {k n k2 n2 k3 n3 : Int} {f f2 f3 : Nat} {s s2 s3 : ByteArray}
    (h : w.cell? ⟨A, 0, none⟩ = some (.int .i64 k) ∧ w.cell? ⟨A, 1, none⟩ = some (.int .i64 n) ∧ w.cell? ⟨A, 2, none⟩ = some (.float .f64 f) ∧ w.cell? ⟨A, 3, none⟩ = some (.string s) ∧ w.cell? ⟨B, 0, none⟩ = some (.int .i64 k2) ∧ w.cell? ⟨B, 1, none⟩ = some (.int .i64 n2) ∧ w.cell? ⟨B, 2, none⟩ = some (.float .f64 f2) ∧ w.cell? ⟨B, 3, none⟩ = some (.string s2) ∧ w.cell? ⟨C, 0, none⟩ = some (.int .i64 k3) ∧ w.cell? ⟨C, 1, none⟩ = some (.int .i64 n3) ∧ w.cell? ⟨C, 2, none⟩ = some (.float .f64 f3) ∧ w.cell? ⟨C, 3, none⟩ = some (.string s3) ∧ Hid (Touch (fun _ => False) w0 w)) : Touch (fun _ => False) w0 w := h.2.2.2.2.2.2.2.2.2.2.2.2.out
theorem new1 (w : World) (c : Array Value) (t : TypeId) : ∀ i, (w.alloc (.cells c t)).cell? ⟨w.heap.size, i, none⟩ = c[i]? := fun i => cell_of_block (heap_alloc_new _ _)
theorem old1 {w : World} (o : Obj) {b i : Nat} {v : Value} (h : w.cell? ⟨b, i, none⟩ = some v) : (w.alloc o).cell? ⟨b, i, none⟩ = some v := (((Touch.refl (fun _ => False) w).alloc o).cell (World.block_lt_of_cell? _ _ h) id i).trans h
end Go.Proofs.YtaihofkmcpcjeaaDoor

/- The sum of doubles is the same either way round. It speaks of no program. -/
namespace Go.Proofs.YtaihofkmcpcjeaaDoor
open Go.RowKit
set_option linter.unusedVariables false

theorem sum_comm (a b : Ieee.Datum) : a.sum b = b.sum a := by
  cases a with
  | nan s f => cases b <;> rfl
  | infinity s =>
    cases b with
    | nan t g => rfl
    | infinity t =>
      by_cases h : s = t
      · subst h; rfl
      · simp only [Ieee.Datum.sum, if_neg h, if_neg (fun e => h (Eq.symm e))]
    | number t n j => rfl
  | number s m i =>
    cases b with
    | nan t g => rfl
    | infinity t => rfl
    | number t n j => simp only [Ieee.Datum.sum, Int.min_comm i j, Int.add_comm (Ieee.signed s m _), Bool.and_comm s t]
theorem add_comm_bits (x y : Nat) : Ieee.double.add x y = Ieee.double.add y x := by
  unfold Ieee.Format.add; rw [sum_comm]
theorem sumBits_comm (x y : Nat) : sumBits x y = sumBits y x := by
  unfold sumBits; rw [add_comm_bits]
theorem refAdd_comm (a b : V) : refAdd a b = refAdd b a := by
  unfold refAdd
  rw [Bool.and_comm (isNum a), Bool.and_comm (a.k == 2), Int.add_comm a.n, sumBits_comm (vFloat a)]
theorem refBits_idem (f : Nat) : refBits (refBits f) = refBits f := by
  unfold refBits
  cases h : isNaN f
  · simp [h]
  · simp only [if_true]
    have : isNaN nanBits = true := by decide +kernel
    rw [this]; rfl
theorem refClean_idem (v : V) : refClean (refClean v) = refClean v := by
  obtain ⟨k, n, f, s⟩ := v
  unfold refClean
  by_cases h : k = 3 <;> simp [h, refBits_idem]
end Go.Proofs.YtaihofkmcpcjeaaDoor

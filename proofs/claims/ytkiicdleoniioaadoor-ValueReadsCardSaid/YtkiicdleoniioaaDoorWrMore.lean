/- A Writer made just now; boxes kept while a Writer writes. -/
import Derived.Test.YtkiicdleoniioaaDoorVWrite
import Derived.Test.YtkiicdleoniioaaDoorPart8
import Derived.Test.YtkiicdleoniioaaDoorPart13
import Derived.Deep.RegionHeld3
namespace Go.Proofs.YtkiicdleoniioaaDoor
open Go.RowKit
set_option linter.unusedVariables false
set_option maxRecDepth 100000

theorem boxes2_put {S : Nat → Prop} {w0 w w' : World} {A B : Nat} {k n k2 n2 : Int} {f f2 : Nat} {s s2 : ByteArray}
    (h : w.cell? ⟨A, 0, none⟩ = some (.int .i64 k) ∧ w.cell? ⟨A, 1, none⟩ = some (.int .i64 n) ∧ w.cell? ⟨A, 2, none⟩ = some (.float .f64 f) ∧ w.cell? ⟨A, 3, none⟩ = some (.string s) ∧ w.cell? ⟨B, 0, none⟩ = some (.int .i64 k2) ∧ w.cell? ⟨B, 1, none⟩ = some (.int .i64 n2) ∧ w.cell? ⟨B, 2, none⟩ = some (.float .f64 f2) ∧ w.cell? ⟨B, 3, none⟩ = some (.string s2) ∧ Hid (Touch (fun _ => False) w0 w)) (hT : Touch S w w') (hA : ¬ S A) (hB : ¬ S B) (h0 : Touch (fun _ => False) w0 w') :
    w'.cell? ⟨A, 0, none⟩ = some (.int .i64 k) ∧ w'.cell? ⟨A, 1, none⟩ = some (.int .i64 n) ∧ w'.cell? ⟨A, 2, none⟩ = some (.float .f64 f) ∧ w'.cell? ⟨A, 3, none⟩ = some (.string s) ∧ w'.cell? ⟨B, 0, none⟩ = some (.int .i64 k2) ∧ w'.cell? ⟨B, 1, none⟩ = some (.int .i64 n2) ∧ w'.cell? ⟨B, 2, none⟩ = some (.float .f64 f2) ∧ w'.cell? ⟨B, 3, none⟩ = some (.string s2) ∧ Hid (Touch (fun _ => False) w0 w') := by
  have go : ∀ (b o : Nat) (v : Value), ¬ S b → w.cell? ⟨b, o, none⟩ = some v → w'.cell? ⟨b, o, none⟩ = some v := fun b o v hb hv => (hT.cell (World.block_lt_of_cell? _ _ hv) hb o).trans hv
  obtain ⟨h1, h2, h3, h4, h5, h6, h7, h8, h9⟩ := h
  exact ⟨go _ _ _ hA h1, go _ _ _ hA h2, go _ _ _ hA h3, go _ _ _ hA h4, go _ _ _ hB h5, go _ _ _ hB h6, go _ _ _ hB h7, go _ _ _ hB h8, h0⟩
theorem wfoot_ne {w : World} {p q : Nat} {bs : List UInt8} {u : Value} (h : Wr w p bs) (hq : w.heap[q]? = some (.cells #[u] 38 (0, 0))) (hne : q ≠ p) : ¬ wfoot w p q := by
  obtain ⟨v, hp, hown⟩ := h
  rintro (e | ⟨x, hx, he⟩)
  · exact hne e
  · rw [cell_of_block hp] at hx
    simp at hx; subst hx
    exact row_ne hq hown he rfl

theorem Wr.new2 (w : World) : Wr (w.alloc (.cells #[.slice none 0 0] 38)) w.heap.size [] := ⟨_, heap_alloc_new _ _, World.ownsRow_nil _ _ _ _⟩
theorem wfoot_nil {w : World} {p : Nat} (h : w.heap[p]? = some (.cells #[.slice none 0 0] 38 (0, 0))) {k : Nat} (hf : wfoot w p k) : k = p := by
  rcases hf with e | ⟨v, hv, he⟩
  · exact e
  · rw [cell_of_block h] at hv
    simp at hv; subst hv; simp [Value.ownBlock] at he
theorem Lies.alloc' {w : World} {g : Nat} {ao : Option Addr} {bs : List UInt8} (h : Lies w g ao bs) (o : Obj) : Lies (w.alloc o) g ao bs :=
  h.keep fun e => Below.heap_alloc _ _ _ (h.lt e)
theorem boxes1_put {S : Nat → Prop} {w0 w w' : World} {A : Nat} {k n : Int} {f : Nat} {s : ByteArray}
    (h : w.cell? ⟨A, 0, none⟩ = some (.int .i64 k) ∧ w.cell? ⟨A, 1, none⟩ = some (.int .i64 n) ∧ w.cell? ⟨A, 2, none⟩ = some (.float .f64 f) ∧ w.cell? ⟨A, 3, none⟩ = some (.string s) ∧ Hid (Touch (fun _ => False) w0 w)) (hT : Touch S w w') (hA : ¬ S A) (h0 : Touch (fun _ => False) w0 w') :
    w'.cell? ⟨A, 0, none⟩ = some (.int .i64 k) ∧ w'.cell? ⟨A, 1, none⟩ = some (.int .i64 n) ∧ w'.cell? ⟨A, 2, none⟩ = some (.float .f64 f) ∧ w'.cell? ⟨A, 3, none⟩ = some (.string s) ∧ Hid (Touch (fun _ => False) w0 w') := by
  have go : ∀ (b o : Nat) (v : Value), ¬ S b → w.cell? ⟨b, o, none⟩ = some v → w'.cell? ⟨b, o, none⟩ = some v := fun b o v hb hv => (hT.cell (World.block_lt_of_cell? _ _ hv) hb o).trans hv
  obtain ⟨h1, h2, h3, h4, h9⟩ := h
  exact ⟨go _ _ _ hA h1, go _ _ _ hA h2, go _ _ _ hA h3, go _ _ _ hA h4, h0⟩
/-- A value is stored into a block behind the box. -/
theorem boxes1_put4 {w0 w : World} {B : Nat} {k n : Int} {f : Nat} {s : ByteArray} {v0 v1 v2 v3 : Value}
    (h : w.cell? ⟨w0.heap.size, 0, none⟩ = some (.int .i64 k) ∧ w.cell? ⟨w0.heap.size, 1, none⟩ = some (.int .i64 n) ∧ w.cell? ⟨w0.heap.size, 2, none⟩ = some (.float .f64 f) ∧ w.cell? ⟨w0.heap.size, 3, none⟩ = some (.string s) ∧ Hid (Touch (fun _ => False) w0 w)) (hB : w0.heap.size < B) :
    ((((w.setCell ⟨B, 0, none⟩ v0).setCell ⟨B, 1, none⟩ v1).setCell ⟨B, 2, none⟩ v2).setCell ⟨B, 3, none⟩ v3).cell? ⟨w0.heap.size, 0, none⟩ = some (.int .i64 k) ∧ ((((w.setCell ⟨B, 0, none⟩ v0).setCell ⟨B, 1, none⟩ v1).setCell ⟨B, 2, none⟩ v2).setCell ⟨B, 3, none⟩ v3).cell? ⟨w0.heap.size, 1, none⟩ = some (.int .i64 n) ∧ ((((w.setCell ⟨B, 0, none⟩ v0).setCell ⟨B, 1, none⟩ v1).setCell ⟨B, 2, none⟩ v2).setCell ⟨B, 3, none⟩ v3).cell? ⟨w0.heap.size, 2, none⟩ = some (.float .f64 f) ∧ ((((w.setCell ⟨B, 0, none⟩ v0).setCell ⟨B, 1, none⟩ v1).setCell ⟨B, 2, none⟩ v2).setCell ⟨B, 3, none⟩ v3).cell? ⟨w0.heap.size, 3, none⟩ = some (.string s) ∧ Hid (Touch (fun _ => False) w0 ((((w.setCell ⟨B, 0, none⟩ v0).setCell ⟨B, 1, none⟩ v1).setCell ⟨B, 2, none⟩ v2).setCell ⟨B, 3, none⟩ v3)) := by
  have hT : Touch (· = B) w ((((w.setCell ⟨B, 0, none⟩ v0).setCell ⟨B, 1, none⟩ v1).setCell ⟨B, 2, none⟩ v2).setCell ⟨B, 3, none⟩ v3) := ((((Touch.refl (· = B) w).setCell ⟨B, 0, none⟩ v0 (fun _ => rfl)).setCell ⟨B, 1, none⟩ v1 (fun _ => rfl)).setCell ⟨B, 2, none⟩ v2 (fun _ => rfl)).setCell ⟨B, 3, none⟩ v3 (fun _ => rfl)
  exact boxes1_put h hT (by omega) (h.2.2.2.2.out.then hT (fun k hk e => by omega))
theorem put4_cells {W : World} {B : Nat} {t : TypeId} {a0 a1 a2 a3 : Value} (v0 v1 v2 v3 : Value) (h : W.heap[B]? = some (.cells #[a0, a1, a2, a3] t (0, 0))) :
    ((((W.setCell ⟨B, 0, none⟩ v0).setCell ⟨B, 1, none⟩ v1).setCell ⟨B, 2, none⟩ v2).setCell ⟨B, 3, none⟩ v3).cell? ⟨B, 0, none⟩ = some v0 ∧ ((((W.setCell ⟨B, 0, none⟩ v0).setCell ⟨B, 1, none⟩ v1).setCell ⟨B, 2, none⟩ v2).setCell ⟨B, 3, none⟩ v3).cell? ⟨B, 1, none⟩ = some v1 ∧
    ((((W.setCell ⟨B, 0, none⟩ v0).setCell ⟨B, 1, none⟩ v1).setCell ⟨B, 2, none⟩ v2).setCell ⟨B, 3, none⟩ v3).cell? ⟨B, 2, none⟩ = some v2 ∧ ((((W.setCell ⟨B, 0, none⟩ v0).setCell ⟨B, 1, none⟩ v1).setCell ⟨B, 2, none⟩ v2).setCell ⟨B, 3, none⟩ v3).cell? ⟨B, 3, none⟩ = some v3 := by
  have h1 := heap_setCell_same W B 0 v0 h
  have h2 := heap_setCell_same _ B 1 v1 h1
  have h3 := heap_setCell_same _ B 2 v2 h2
  have h4 := heap_setCell_same _ B 3 v3 h3
  refine ⟨?_, ?_, ?_, ?_⟩ <;> rw [cell_of_block h4] <;> rfl
theorem touch_put4 {w0 W : World} {B : Nat} {v0 v1 v2 v3 : Value} (h : Touch (fun _ => False) w0 W) (hB : w0.heap.size ≤ B) : Touch (fun _ => False) w0 ((((W.setCell ⟨B, 0, none⟩ v0).setCell ⟨B, 1, none⟩ v1).setCell ⟨B, 2, none⟩ v2).setCell ⟨B, 3, none⟩ v3) :=
  (((h.setCell ⟨B, 0, none⟩ v0 (fun e => by simp only at e; omega)).setCell ⟨B, 1, none⟩ v1 (fun e => by simp only at e; omega)).setCell ⟨B, 2, none⟩ v2 (fun e => by simp only at e; omega)).setCell ⟨B, 3, none⟩ v3 (fun e => by simp only at e; omega)
theorem touch_alloc_drew (W : World) (o : Obj) : Touch (fun _ => False) W.drew (W.alloc o).drew :=
  have h := (Touch.refl (fun _ => False) W).alloc o
  ⟨h.os, h.tape, h.output, h.size, h.block⟩
/-- A value made behind a box, with two Writers that lie: where its block was made last. -/
theorem rel_alloc {w0 w8 w : World} {P5 P6 : Nat} {BY : List UInt8} {k n K : Int} {f F : Nat} {s : ByteArray} (h : w.cell? ⟨w0.heap.size, 0, none⟩ = some (.int .i64 k) ∧ w.cell? ⟨w0.heap.size, 1, none⟩ = some (.int .i64 n) ∧ w.cell? ⟨w0.heap.size, 2, none⟩ = some (.float .f64 f) ∧ w.cell? ⟨w0.heap.size, 3, none⟩ = some (.string s) ∧ Hid (Touch (fun _ => False) w0 w)) (hT : Touch (fun _ => False) w8 w) (h5 : Wr w8 P5 BY) (h6 : Wr w8 P6 BY) :
    ((w.alloc (.cells #[.int .i64 K, .int .i64 0, .float .f64 F, .string ⟨#[]⟩] 31)).cell? ⟨w0.heap.size, 0, none⟩ = some (.int .i64 k) ∧ (w.alloc (.cells #[.int .i64 K, .int .i64 0, .float .f64 F, .string ⟨#[]⟩] 31)).cell? ⟨w0.heap.size, 1, none⟩ = some (.int .i64 n) ∧ (w.alloc (.cells #[.int .i64 K, .int .i64 0, .float .f64 F, .string ⟨#[]⟩] 31)).cell? ⟨w0.heap.size, 2, none⟩ = some (.float .f64 f) ∧ (w.alloc (.cells #[.int .i64 K, .int .i64 0, .float .f64 F, .string ⟨#[]⟩] 31)).cell? ⟨w0.heap.size, 3, none⟩ = some (.string s) ∧ (w.alloc (.cells #[.int .i64 K, .int .i64 0, .float .f64 F, .string ⟨#[]⟩] 31)).cell? ⟨w.heap.size, 0, none⟩ = some (.int .i64 K) ∧ (w.alloc (.cells #[.int .i64 K, .int .i64 0, .float .f64 F, .string ⟨#[]⟩] 31)).cell? ⟨w.heap.size, 1, none⟩ = some (.int .i64 0) ∧ (w.alloc (.cells #[.int .i64 K, .int .i64 0, .float .f64 F, .string ⟨#[]⟩] 31)).cell? ⟨w.heap.size, 2, none⟩ = some (.float .f64 F) ∧ (w.alloc (.cells #[.int .i64 K, .int .i64 0, .float .f64 F, .string ⟨#[]⟩] 31)).cell? ⟨w.heap.size, 3, none⟩ = some (.string ⟨#[]⟩) ∧ Hid (Touch (fun _ => False) w0 (w.alloc (.cells #[.int .i64 K, .int .i64 0, .float .f64 F, .string ⟨#[]⟩] 31)))) ∧ Hid (Wr (w.alloc (.cells #[.int .i64 K, .int .i64 0, .float .f64 F, .string ⟨#[]⟩] 31)) P5 BY ∧ Wr (w.alloc (.cells #[.int .i64 K, .int .i64 0, .float .f64 F, .string ⟨#[]⟩] 31)) P6 BY) := by
  have hb := heap_alloc_new w (.cells #[.int .i64 K, .int .i64 0, .float .f64 F, .string ⟨#[]⟩] 31)
  have hk := boxes1_keep h ((Touch.refl _ w).alloc (.cells #[.int .i64 K, .int .i64 0, .float .f64 F, .string ⟨#[]⟩] 31))
  have hA := hT.alloc (.cells #[.int .i64 K, .int .i64 0, .float .f64 F, .string ⟨#[]⟩] 31)
  exact ⟨⟨hk.1, hk.2.1, hk.2.2.1, hk.2.2.2.1, (cell_of_block hb).trans rfl, (cell_of_block hb).trans rfl, (cell_of_block hb).trans rfl, (cell_of_block hb).trans rfl, hk.2.2.2.2⟩, h5.keep hA (fun _ _ => id), h6.keep hA (fun _ _ => id)⟩
/-- Where its block was made ahead. -/
theorem rel_put4 {w0 w8 w : World} {P5 P6 B : Nat} {BY : List UInt8} {k n K : Int} {f F : Nat} {s : ByteArray} {t : TypeId} {a0 a1 a2 a3 : Value} (h : w.cell? ⟨w0.heap.size, 0, none⟩ = some (.int .i64 k) ∧ w.cell? ⟨w0.heap.size, 1, none⟩ = some (.int .i64 n) ∧ w.cell? ⟨w0.heap.size, 2, none⟩ = some (.float .f64 f) ∧ w.cell? ⟨w0.heap.size, 3, none⟩ = some (.string s) ∧ Hid (Touch (fun _ => False) w0 w)) (hAB : w0.heap.size < B) (hz : w.heap[B]? = some (.cells #[a0, a1, a2, a3] t (0, 0))) (hT : Touch (fun _ => False) w8 w) (hB : w8.heap.size ≤ B) (h5 : Wr w8 P5 BY) (h6 : Wr w8 P6 BY) :
    (((((w.setCell ⟨B, 0, none⟩ (.int .i64 K)).setCell ⟨B, 1, none⟩ (.int .i64 0)).setCell ⟨B, 2, none⟩ (.float .f64 F)).setCell ⟨B, 3, none⟩ (.string ⟨#[]⟩)).cell? ⟨w0.heap.size, 0, none⟩ = some (.int .i64 k) ∧ ((((w.setCell ⟨B, 0, none⟩ (.int .i64 K)).setCell ⟨B, 1, none⟩ (.int .i64 0)).setCell ⟨B, 2, none⟩ (.float .f64 F)).setCell ⟨B, 3, none⟩ (.string ⟨#[]⟩)).cell? ⟨w0.heap.size, 1, none⟩ = some (.int .i64 n) ∧ ((((w.setCell ⟨B, 0, none⟩ (.int .i64 K)).setCell ⟨B, 1, none⟩ (.int .i64 0)).setCell ⟨B, 2, none⟩ (.float .f64 F)).setCell ⟨B, 3, none⟩ (.string ⟨#[]⟩)).cell? ⟨w0.heap.size, 2, none⟩ = some (.float .f64 f) ∧ ((((w.setCell ⟨B, 0, none⟩ (.int .i64 K)).setCell ⟨B, 1, none⟩ (.int .i64 0)).setCell ⟨B, 2, none⟩ (.float .f64 F)).setCell ⟨B, 3, none⟩ (.string ⟨#[]⟩)).cell? ⟨w0.heap.size, 3, none⟩ = some (.string s) ∧ ((((w.setCell ⟨B, 0, none⟩ (.int .i64 K)).setCell ⟨B, 1, none⟩ (.int .i64 0)).setCell ⟨B, 2, none⟩ (.float .f64 F)).setCell ⟨B, 3, none⟩ (.string ⟨#[]⟩)).cell? ⟨B, 0, none⟩ = some (.int .i64 K) ∧ ((((w.setCell ⟨B, 0, none⟩ (.int .i64 K)).setCell ⟨B, 1, none⟩ (.int .i64 0)).setCell ⟨B, 2, none⟩ (.float .f64 F)).setCell ⟨B, 3, none⟩ (.string ⟨#[]⟩)).cell? ⟨B, 1, none⟩ = some (.int .i64 0) ∧ ((((w.setCell ⟨B, 0, none⟩ (.int .i64 K)).setCell ⟨B, 1, none⟩ (.int .i64 0)).setCell ⟨B, 2, none⟩ (.float .f64 F)).setCell ⟨B, 3, none⟩ (.string ⟨#[]⟩)).cell? ⟨B, 2, none⟩ = some (.float .f64 F) ∧ ((((w.setCell ⟨B, 0, none⟩ (.int .i64 K)).setCell ⟨B, 1, none⟩ (.int .i64 0)).setCell ⟨B, 2, none⟩ (.float .f64 F)).setCell ⟨B, 3, none⟩ (.string ⟨#[]⟩)).cell? ⟨B, 3, none⟩ = some (.string ⟨#[]⟩) ∧ Hid (Touch (fun _ => False) w0 ((((w.setCell ⟨B, 0, none⟩ (.int .i64 K)).setCell ⟨B, 1, none⟩ (.int .i64 0)).setCell ⟨B, 2, none⟩ (.float .f64 F)).setCell ⟨B, 3, none⟩ (.string ⟨#[]⟩)))) ∧ Hid (Wr ((((w.setCell ⟨B, 0, none⟩ (.int .i64 K)).setCell ⟨B, 1, none⟩ (.int .i64 0)).setCell ⟨B, 2, none⟩ (.float .f64 F)).setCell ⟨B, 3, none⟩ (.string ⟨#[]⟩)) P5 BY ∧ Wr ((((w.setCell ⟨B, 0, none⟩ (.int .i64 K)).setCell ⟨B, 1, none⟩ (.int .i64 0)).setCell ⟨B, 2, none⟩ (.float .f64 F)).setCell ⟨B, 3, none⟩ (.string ⟨#[]⟩)) P6 BY) := by
  have hk := boxes1_put4 (v0 := .int .i64 K) (v1 := .int .i64 0) (v2 := .float .f64 F) (v3 := .string ⟨#[]⟩) h hAB
  obtain ⟨q0, q1, q2, q3⟩ := put4_cells (.int .i64 K) (.int .i64 0) (.float .f64 F) (.string ⟨#[]⟩) hz
  have hA := touch_put4 (v0 := .int .i64 K) (v1 := .int .i64 0) (v2 := .float .f64 F) (v3 := .string ⟨#[]⟩) hT hB
  exact ⟨⟨hk.1, hk.2.1, hk.2.2.1, hk.2.2.2.1, q0, q1, q2, q3, hk.2.2.2.2⟩, h5.keep hA (fun _ _ => id), h6.keep hA (fun _ _ => id)⟩
theorem touch_of_alloc {W W' : World} {o : Obj} (h : W' = W.alloc o) : Touch (fun _ => False) W W' := by rw [h]; exact (Touch.refl _ _).alloc _
/-- What is held may be strengthened on the way. -/
theorem wpAnyH_strong {P : Program} {md : Region.Mode} {ops : Array Oper} {Q : Exit → Act → World → Prop} {S S' : World → Prop} (h : ∀ w, S' w → S w) : ∀ (fuel : Nat) (listed : Array Bool) (a : Act) (w : World), wpAnyH P md ops Q S' fuel listed a w → wpAnyH P md ops Q S fuel listed a w
  | 0, _, _, _, k => k
  | fuel + 1, _, _, _, k => ⟨k.1, fun i hi => wpOp_mono (fun a' w' k' => ⟨h w' k'.1, wpAnyH_strong h fuel _ a' w' k'.2⟩) (k.2 i hi)⟩
theorem boxesL_keep {w0 w w' : World} {A B g : Nat} {ao : Option Addr} {bs : List UInt8} {k n k2 n2 : Int} {f f2 : Nat} {s s2 : ByteArray}
    (h : (w.cell? ⟨A, 0, none⟩ = some (.int .i64 k) ∧ w.cell? ⟨A, 1, none⟩ = some (.int .i64 n) ∧ w.cell? ⟨A, 2, none⟩ = some (.float .f64 f) ∧ w.cell? ⟨A, 3, none⟩ = some (.string s) ∧ w.cell? ⟨B, 0, none⟩ = some (.int .i64 k2) ∧ w.cell? ⟨B, 1, none⟩ = some (.int .i64 n2) ∧ w.cell? ⟨B, 2, none⟩ = some (.float .f64 f2) ∧ w.cell? ⟨B, 3, none⟩ = some (.string s2) ∧ Hid (Touch (fun _ => False) w0 w)) ∧ Hid (Lies w g ao bs)) (hT : Touch (fun _ => False) w w') :
    (w'.cell? ⟨A, 0, none⟩ = some (.int .i64 k) ∧ w'.cell? ⟨A, 1, none⟩ = some (.int .i64 n) ∧ w'.cell? ⟨A, 2, none⟩ = some (.float .f64 f) ∧ w'.cell? ⟨A, 3, none⟩ = some (.string s) ∧ w'.cell? ⟨B, 0, none⟩ = some (.int .i64 k2) ∧ w'.cell? ⟨B, 1, none⟩ = some (.int .i64 n2) ∧ w'.cell? ⟨B, 2, none⟩ = some (.float .f64 f2) ∧ w'.cell? ⟨B, 3, none⟩ = some (.string s2) ∧ Hid (Touch (fun _ => False) w0 w')) ∧ Hid (Lies w' g ao bs) :=
  ⟨boxes2_keep h.1 hT, h.2.out.keep (fun e => hT.block _ (h.2.out.lt e) id)⟩
end Go.Proofs.YtkiicdleoniioaaDoor

/- The document's tree of units (quireref9): At. -/
import Derived.Test.YtdnhoicfolkbnaaGreatPart25
import Derived.Test.YtdnhoicfolkbnaaGreatPart16
namespace Go.Proofs.YtdnhoicfolkbnaaGreat
open Go.RowKit
set_option linter.unusedVariables false
set_option linter.unusedSimpArgs false
set_option maxRecDepth 100000

/-- The unit at a place. -/
def RS.at_ (r : RS) (i : Int) : Un × Bool := if i < 0 ∨ (r.order.length : Int) ≤ i then (.zero, false) else ((r.nd ((r.order[i.toNat]?).getD 0)).u, true)
set_option maxHeartbeats 8000000 in
theorem qat_any {w : World} {b : Nat} {r : RS} (h : RqAt w b r) (hr : ∀ x ∈ r.order, x < r.l.length) (i : Int) :
    Calls Tryz.prog 24 #[qP b, iV i] w fun e w' => e = .returned (.tuple #[.agg #[u64 ((r.at_ i).1).c, u64 ((r.at_ i).1).k, u64 ((r.at_ i).1).lc, u64 ((r.at_ i).1).lk, u64 ((r.at_ i).1).rc, u64 ((r.at_ i).1).rk], .bool (r.at_ i).2]) ∧ Touch (fun _ => False) w w' := by
  obtain ⟨E, hE⟩ : ∃ E, Hid (E = w.alloc zeroUO) := ⟨_, Eq.refl _⟩
  have HTE : Hid (Touch (fun _ => False) w E) := by rw [hE.out]; exact (Touch.refl _ _).alloc _
  have HEB : Hid (E.heap[w.heap.size]? = some zeroUO) := by rw [hE.out]; exact heap_alloc_new _ _
  have HC : Hid (0 ≤ i → i < r.order.length → ∃ g cap, E.cell? ⟨b, 0, none⟩ = some (.slice (some ⟨g, 0, none⟩) r.l.length cap) ∧ (r.order[i.toNat]?).getD 0 < r.l.length ∧ NdCells E g ((r.order[i.toNat]?).getD 0) (r.nd ((r.order[i.toNat]?).getD 0)) ∧ ∃ g' o' cap', E.cell? ⟨b, 2, none⟩ = some (.slice (some ⟨g', o', none⟩) r.order.length cap') ∧ E.cell? ⟨g', o' + i.toNat, none⟩ = some (iV (((r.order[i.toNat]?).getD 0 : Nat) : Int))) := fun h1 h2 => by
    have hlt : i.toNat < r.order.length := by omega
    have he : (r.order[i.toNat]?).getD 0 = r.order[i.toNat] := by rw [List.getElem?_eq_getElem hlt]; rfl
    have hx : r.order[i.toNat] < r.l.length := hr _ (List.getElem_mem _)
    have hW := h.keep HTE.out
    obtain ⟨ao, cap, q1, q2⟩ := hW.nodes
    obtain ⟨g, rfl, q3⟩ := q2 (by omega)
    obtain ⟨v, o1, o2⟩ := hW.ord
    obtain ⟨bo, cap', rfl, o3⟩ := o2.nums
    obtain ⟨g', o', rfl, o4⟩ := o3 (by omega)
    rw [he]
    exact ⟨g, cap, q1, hx, q3 _ hx, g', o', cap', o1, o4 _ hlt⟩
  have HO : Hid (∃ ao cap, E.cell? ⟨b, 2, none⟩ = some (.slice ao r.order.length cap)) := by
    obtain ⟨v, o1, o2⟩ := (h.keep HTE.out).ord
    obtain ⟨bo, cap', rfl, o3⟩ := o2.nums
    exact ⟨_, _, o1⟩
  unfold RS.at_
  generalize hm : (r.order[i.toNat]?).getD 0 = m at *
  clear hm
  generalize hu : r.nd m = nd at *
  clear hu
  generalize r.order.length = tt at *
  generalize r.l.length = ll at *
  obtain ⟨⟨uc, uk, ulc, ulk, urc, urk⟩, par, lf, lfs, mr⟩ := nd
  obtain ⟨res, hres⟩ : ∃ r : Un × Bool, Hid (r = if i < 0 ∨ (tt : Int) ≤ i then (.zero, false) else (⟨uc, uk, ulc, ulk, urc, urk⟩, true)) := ⟨_, Eq.refl _⟩
  simp only at HC ⊢
  rw [← hres.out]
  clear h hr
  obtain ⟨n, hn⟩ : ∃ m, Hid (m = w.heap.size) := ⟨_, Eq.refl _⟩
  rw [← hn.out] at HEB
  have HNN : Hid (w.heap.size ≤ n) := Nat.le_of_eq hn.out.symm
  by_cases h1 : i < 0
  · have HX : Hid (res = (.zero, false)) := by rw [hres.out]; exact if_pos (.inl h1)
    go_enter Tryz.func24, Tryz.ntmps24
    go_upto_region 1 with fail
    rw [← hE.out]
    clear hE
    rw [← hn.out]
    have HT : Hid (Touch (fun _ => False) w E) := HTE.out
    have hz := HEB.out
    have hnn := HNN.out
    have st1 : (E.setCell ⟨n, 0, none⟩ (u64 0)).cell? ⟨n, 1, none⟩ = some (u64 0) := by rw [cell_of_block (heap_setCell_same _ _ _ _ hz)]; rfl
    have st2 : ((E.setCell ⟨n, 0, none⟩ (u64 0)).setCell ⟨n, 1, none⟩ (u64 0)).cell? ⟨n, 2, none⟩ = some (u64 0) := by rw [cell_of_block (heap_setCell_same _ _ _ _ (heap_setCell_same _ _ _ _ hz))]; rfl
    have st3 : (((E.setCell ⟨n, 0, none⟩ (u64 0)).setCell ⟨n, 1, none⟩ (u64 0)).setCell ⟨n, 2, none⟩ (u64 0)).cell? ⟨n, 3, none⟩ = some (u64 0) := by rw [cell_of_block (heap_setCell_same _ _ _ _ (heap_setCell_same _ _ _ _ (heap_setCell_same _ _ _ _ hz)))]; rfl
    have st4 : ((((E.setCell ⟨n, 0, none⟩ (u64 0)).setCell ⟨n, 1, none⟩ (u64 0)).setCell ⟨n, 2, none⟩ (u64 0)).setCell ⟨n, 3, none⟩ (u64 0)).cell? ⟨n, 4, none⟩ = some (u64 0) := by rw [cell_of_block (heap_setCell_same _ _ _ _ (heap_setCell_same _ _ _ _ (heap_setCell_same _ _ _ _ (heap_setCell_same _ _ _ _ hz))))]; rfl
    have st5 : (((((E.setCell ⟨n, 0, none⟩ (u64 0)).setCell ⟨n, 1, none⟩ (u64 0)).setCell ⟨n, 2, none⟩ (u64 0)).setCell ⟨n, 3, none⟩ (u64 0)).setCell ⟨n, 4, none⟩ (u64 0)).cell? ⟨n, 5, none⟩ = some (u64 0) := by rw [cell_of_block (heap_setCell_same _ _ _ _ (heap_setCell_same _ _ _ _ (heap_setCell_same _ _ _ _ (heap_setCell_same _ _ _ _ (heap_setCell_same _ _ _ _ hz)))))]; rfl
    have en0 : ((((((E.setCell ⟨n, 0, none⟩ (u64 0)).setCell ⟨n, 1, none⟩ (u64 0)).setCell ⟨n, 2, none⟩ (u64 0)).setCell ⟨n, 3, none⟩ (u64 0)).setCell ⟨n, 4, none⟩ (u64 0)).setCell ⟨n, 5, none⟩ (u64 0)).cell? ⟨n, 0, none⟩ = some (u64 0) := by rw [cell_of_block (heap_setCell_same _ _ _ _ (heap_setCell_same _ _ _ _ (heap_setCell_same _ _ _ _ (heap_setCell_same _ _ _ _ (heap_setCell_same _ _ _ _ (heap_setCell_same _ _ _ _ hz))))))]; rfl
    have en1 : ((((((E.setCell ⟨n, 0, none⟩ (u64 0)).setCell ⟨n, 1, none⟩ (u64 0)).setCell ⟨n, 2, none⟩ (u64 0)).setCell ⟨n, 3, none⟩ (u64 0)).setCell ⟨n, 4, none⟩ (u64 0)).setCell ⟨n, 5, none⟩ (u64 0)).cell? ⟨n, 1, none⟩ = some (u64 0) := by rw [cell_of_block (heap_setCell_same _ _ _ _ (heap_setCell_same _ _ _ _ (heap_setCell_same _ _ _ _ (heap_setCell_same _ _ _ _ (heap_setCell_same _ _ _ _ (heap_setCell_same _ _ _ _ hz))))))]; rfl
    have en2 : ((((((E.setCell ⟨n, 0, none⟩ (u64 0)).setCell ⟨n, 1, none⟩ (u64 0)).setCell ⟨n, 2, none⟩ (u64 0)).setCell ⟨n, 3, none⟩ (u64 0)).setCell ⟨n, 4, none⟩ (u64 0)).setCell ⟨n, 5, none⟩ (u64 0)).cell? ⟨n, 2, none⟩ = some (u64 0) := by rw [cell_of_block (heap_setCell_same _ _ _ _ (heap_setCell_same _ _ _ _ (heap_setCell_same _ _ _ _ (heap_setCell_same _ _ _ _ (heap_setCell_same _ _ _ _ (heap_setCell_same _ _ _ _ hz))))))]; rfl
    have en3 : ((((((E.setCell ⟨n, 0, none⟩ (u64 0)).setCell ⟨n, 1, none⟩ (u64 0)).setCell ⟨n, 2, none⟩ (u64 0)).setCell ⟨n, 3, none⟩ (u64 0)).setCell ⟨n, 4, none⟩ (u64 0)).setCell ⟨n, 5, none⟩ (u64 0)).cell? ⟨n, 3, none⟩ = some (u64 0) := by rw [cell_of_block (heap_setCell_same _ _ _ _ (heap_setCell_same _ _ _ _ (heap_setCell_same _ _ _ _ (heap_setCell_same _ _ _ _ (heap_setCell_same _ _ _ _ (heap_setCell_same _ _ _ _ hz))))))]; rfl
    have en4 : ((((((E.setCell ⟨n, 0, none⟩ (u64 0)).setCell ⟨n, 1, none⟩ (u64 0)).setCell ⟨n, 2, none⟩ (u64 0)).setCell ⟨n, 3, none⟩ (u64 0)).setCell ⟨n, 4, none⟩ (u64 0)).setCell ⟨n, 5, none⟩ (u64 0)).cell? ⟨n, 4, none⟩ = some (u64 0) := by rw [cell_of_block (heap_setCell_same _ _ _ _ (heap_setCell_same _ _ _ _ (heap_setCell_same _ _ _ _ (heap_setCell_same _ _ _ _ (heap_setCell_same _ _ _ _ (heap_setCell_same _ _ _ _ hz))))))]; rfl
    have en5 : ((((((E.setCell ⟨n, 0, none⟩ (u64 0)).setCell ⟨n, 1, none⟩ (u64 0)).setCell ⟨n, 2, none⟩ (u64 0)).setCell ⟨n, 3, none⟩ (u64 0)).setCell ⟨n, 4, none⟩ (u64 0)).setCell ⟨n, 5, none⟩ (u64 0)).cell? ⟨n, 5, none⟩ = some (u64 0) := by rw [cell_of_block (heap_setCell_same _ _ _ _ (heap_setCell_same _ _ _ _ (heap_setCell_same _ _ _ _ (heap_setCell_same _ _ _ _ (heap_setCell_same _ _ _ _ (heap_setCell_same _ _ _ _ hz))))))]; rfl
    have fz0 : E.frozen? ⟨n, 0, none⟩ = false := free_of_block hz
    have fz1 : E.frozen? ⟨n, 1, none⟩ = false := free_of_block hz
    have fz2 : E.frozen? ⟨n, 2, none⟩ = false := free_of_block hz
    have fz3 : E.frozen? ⟨n, 3, none⟩ = false := free_of_block hz
    have fz4 : E.frozen? ⟨n, 4, none⟩ = false := free_of_block hz
    have fz5 : E.frozen? ⟨n, 5, none⟩ = false := free_of_block hz
    have cz0 : E.cell? ⟨n, 0, none⟩ = some (u64 0) := by rw [cell_of_block hz]; rfl
    have cz1 : E.cell? ⟨n, 1, none⟩ = some (u64 0) := by rw [cell_of_block hz]; rfl
    have cz2 : E.cell? ⟨n, 2, none⟩ = some (u64 0) := by rw [cell_of_block hz]; rfl
    have cz3 : E.cell? ⟨n, 3, none⟩ = some (u64 0) := by rw [cell_of_block hz]; rfl
    have cz4 : E.cell? ⟨n, 4, none⟩ = some (u64 0) := by rw [cell_of_block hz]; rfl
    have cz5 : E.cell? ⟨n, 5, none⟩ = some (u64 0) := by rw [cell_of_block hz]; rfl
    have HF : Hid (Touch (fun _ => False) w ((((((E.setCell ⟨n, 0, none⟩ (u64 0)).setCell ⟨n, 1, none⟩ (u64 0)).setCell ⟨n, 2, none⟩ (u64 0)).setCell ⟨n, 3, none⟩ (u64 0)).setCell ⟨n, 4, none⟩ (u64 0)).setCell ⟨n, 5, none⟩ (u64 0))) := ((((((HT.out.fresh n 0 (u64 0) hnn).fresh n 1 (u64 0) hnn).fresh n 2 (u64 0) hnn).fresh n 3 (u64 0) hnn).fresh n 4 (u64 0) hnn).fresh n 5 (u64 0) hnn)
    clear hz hnn
    go_wp2_with fail
    refine bodyPost_ret (v := .tuple #[.agg #[u64 0, u64 0, u64 0, u64 0, u64 0, u64 0], .bool false]) (by simp [results, Tryz.results24, go_sem, en0, en1, en2, en3, en4, en5]) rfl ?_
    exact ⟨by (rw [HX.out] <;> rfl), HF.out⟩
  · by_cases h2 : (tt : Int) ≤ i
    · have HX : Hid (res = (.zero, false)) := by rw [hres.out]; exact if_pos (.inr h2)
      obtain ⟨ao, cap, o1⟩ := HO.out
      go_enter Tryz.func24, Tryz.ntmps24
      go_upto_region 1 with fail
      rw [← hE.out]
      clear hE
      rw [← hn.out]
      have HT : Hid (Touch (fun _ => False) w E) := HTE.out
      have hz := HEB.out
      have hnn := HNN.out
      have st1 : (E.setCell ⟨n, 0, none⟩ (u64 0)).cell? ⟨n, 1, none⟩ = some (u64 0) := by rw [cell_of_block (heap_setCell_same _ _ _ _ hz)]; rfl
      have st2 : ((E.setCell ⟨n, 0, none⟩ (u64 0)).setCell ⟨n, 1, none⟩ (u64 0)).cell? ⟨n, 2, none⟩ = some (u64 0) := by rw [cell_of_block (heap_setCell_same _ _ _ _ (heap_setCell_same _ _ _ _ hz))]; rfl
      have st3 : (((E.setCell ⟨n, 0, none⟩ (u64 0)).setCell ⟨n, 1, none⟩ (u64 0)).setCell ⟨n, 2, none⟩ (u64 0)).cell? ⟨n, 3, none⟩ = some (u64 0) := by rw [cell_of_block (heap_setCell_same _ _ _ _ (heap_setCell_same _ _ _ _ (heap_setCell_same _ _ _ _ hz)))]; rfl
      have st4 : ((((E.setCell ⟨n, 0, none⟩ (u64 0)).setCell ⟨n, 1, none⟩ (u64 0)).setCell ⟨n, 2, none⟩ (u64 0)).setCell ⟨n, 3, none⟩ (u64 0)).cell? ⟨n, 4, none⟩ = some (u64 0) := by rw [cell_of_block (heap_setCell_same _ _ _ _ (heap_setCell_same _ _ _ _ (heap_setCell_same _ _ _ _ (heap_setCell_same _ _ _ _ hz))))]; rfl
      have st5 : (((((E.setCell ⟨n, 0, none⟩ (u64 0)).setCell ⟨n, 1, none⟩ (u64 0)).setCell ⟨n, 2, none⟩ (u64 0)).setCell ⟨n, 3, none⟩ (u64 0)).setCell ⟨n, 4, none⟩ (u64 0)).cell? ⟨n, 5, none⟩ = some (u64 0) := by rw [cell_of_block (heap_setCell_same _ _ _ _ (heap_setCell_same _ _ _ _ (heap_setCell_same _ _ _ _ (heap_setCell_same _ _ _ _ (heap_setCell_same _ _ _ _ hz)))))]; rfl
      have en0 : ((((((E.setCell ⟨n, 0, none⟩ (u64 0)).setCell ⟨n, 1, none⟩ (u64 0)).setCell ⟨n, 2, none⟩ (u64 0)).setCell ⟨n, 3, none⟩ (u64 0)).setCell ⟨n, 4, none⟩ (u64 0)).setCell ⟨n, 5, none⟩ (u64 0)).cell? ⟨n, 0, none⟩ = some (u64 0) := by rw [cell_of_block (heap_setCell_same _ _ _ _ (heap_setCell_same _ _ _ _ (heap_setCell_same _ _ _ _ (heap_setCell_same _ _ _ _ (heap_setCell_same _ _ _ _ (heap_setCell_same _ _ _ _ hz))))))]; rfl
      have en1 : ((((((E.setCell ⟨n, 0, none⟩ (u64 0)).setCell ⟨n, 1, none⟩ (u64 0)).setCell ⟨n, 2, none⟩ (u64 0)).setCell ⟨n, 3, none⟩ (u64 0)).setCell ⟨n, 4, none⟩ (u64 0)).setCell ⟨n, 5, none⟩ (u64 0)).cell? ⟨n, 1, none⟩ = some (u64 0) := by rw [cell_of_block (heap_setCell_same _ _ _ _ (heap_setCell_same _ _ _ _ (heap_setCell_same _ _ _ _ (heap_setCell_same _ _ _ _ (heap_setCell_same _ _ _ _ (heap_setCell_same _ _ _ _ hz))))))]; rfl
      have en2 : ((((((E.setCell ⟨n, 0, none⟩ (u64 0)).setCell ⟨n, 1, none⟩ (u64 0)).setCell ⟨n, 2, none⟩ (u64 0)).setCell ⟨n, 3, none⟩ (u64 0)).setCell ⟨n, 4, none⟩ (u64 0)).setCell ⟨n, 5, none⟩ (u64 0)).cell? ⟨n, 2, none⟩ = some (u64 0) := by rw [cell_of_block (heap_setCell_same _ _ _ _ (heap_setCell_same _ _ _ _ (heap_setCell_same _ _ _ _ (heap_setCell_same _ _ _ _ (heap_setCell_same _ _ _ _ (heap_setCell_same _ _ _ _ hz))))))]; rfl
      have en3 : ((((((E.setCell ⟨n, 0, none⟩ (u64 0)).setCell ⟨n, 1, none⟩ (u64 0)).setCell ⟨n, 2, none⟩ (u64 0)).setCell ⟨n, 3, none⟩ (u64 0)).setCell ⟨n, 4, none⟩ (u64 0)).setCell ⟨n, 5, none⟩ (u64 0)).cell? ⟨n, 3, none⟩ = some (u64 0) := by rw [cell_of_block (heap_setCell_same _ _ _ _ (heap_setCell_same _ _ _ _ (heap_setCell_same _ _ _ _ (heap_setCell_same _ _ _ _ (heap_setCell_same _ _ _ _ (heap_setCell_same _ _ _ _ hz))))))]; rfl
      have en4 : ((((((E.setCell ⟨n, 0, none⟩ (u64 0)).setCell ⟨n, 1, none⟩ (u64 0)).setCell ⟨n, 2, none⟩ (u64 0)).setCell ⟨n, 3, none⟩ (u64 0)).setCell ⟨n, 4, none⟩ (u64 0)).setCell ⟨n, 5, none⟩ (u64 0)).cell? ⟨n, 4, none⟩ = some (u64 0) := by rw [cell_of_block (heap_setCell_same _ _ _ _ (heap_setCell_same _ _ _ _ (heap_setCell_same _ _ _ _ (heap_setCell_same _ _ _ _ (heap_setCell_same _ _ _ _ (heap_setCell_same _ _ _ _ hz))))))]; rfl
      have en5 : ((((((E.setCell ⟨n, 0, none⟩ (u64 0)).setCell ⟨n, 1, none⟩ (u64 0)).setCell ⟨n, 2, none⟩ (u64 0)).setCell ⟨n, 3, none⟩ (u64 0)).setCell ⟨n, 4, none⟩ (u64 0)).setCell ⟨n, 5, none⟩ (u64 0)).cell? ⟨n, 5, none⟩ = some (u64 0) := by rw [cell_of_block (heap_setCell_same _ _ _ _ (heap_setCell_same _ _ _ _ (heap_setCell_same _ _ _ _ (heap_setCell_same _ _ _ _ (heap_setCell_same _ _ _ _ (heap_setCell_same _ _ _ _ hz))))))]; rfl
      have fz0 : E.frozen? ⟨n, 0, none⟩ = false := free_of_block hz
      have fz1 : E.frozen? ⟨n, 1, none⟩ = false := free_of_block hz
      have fz2 : E.frozen? ⟨n, 2, none⟩ = false := free_of_block hz
      have fz3 : E.frozen? ⟨n, 3, none⟩ = false := free_of_block hz
      have fz4 : E.frozen? ⟨n, 4, none⟩ = false := free_of_block hz
      have fz5 : E.frozen? ⟨n, 5, none⟩ = false := free_of_block hz
      have cz0 : E.cell? ⟨n, 0, none⟩ = some (u64 0) := by rw [cell_of_block hz]; rfl
      have cz1 : E.cell? ⟨n, 1, none⟩ = some (u64 0) := by rw [cell_of_block hz]; rfl
      have cz2 : E.cell? ⟨n, 2, none⟩ = some (u64 0) := by rw [cell_of_block hz]; rfl
      have cz3 : E.cell? ⟨n, 3, none⟩ = some (u64 0) := by rw [cell_of_block hz]; rfl
      have cz4 : E.cell? ⟨n, 4, none⟩ = some (u64 0) := by rw [cell_of_block hz]; rfl
      have cz5 : E.cell? ⟨n, 5, none⟩ = some (u64 0) := by rw [cell_of_block hz]; rfl
      have HF : Hid (Touch (fun _ => False) w ((((((E.setCell ⟨n, 0, none⟩ (u64 0)).setCell ⟨n, 1, none⟩ (u64 0)).setCell ⟨n, 2, none⟩ (u64 0)).setCell ⟨n, 3, none⟩ (u64 0)).setCell ⟨n, 4, none⟩ (u64 0)).setCell ⟨n, 5, none⟩ (u64 0))) := ((((((HT.out.fresh n 0 (u64 0) hnn).fresh n 1 (u64 0) hnn).fresh n 2 (u64 0) hnn).fresh n 3 (u64 0) hnn).fresh n 4 (u64 0) hnn).fresh n 5 (u64 0) hnn)
      clear hz hnn
      go_wp2_with fail
      refine bodyPost_ret (v := .tuple #[.agg #[u64 0, u64 0, u64 0, u64 0, u64 0, u64 0], .bool false]) (by simp [results, Tryz.results24, go_sem, en0, en1, en2, en3, en4, en5]) rfl ?_
      exact ⟨by (rw [HX.out] <;> rfl), HF.out⟩
    · have HX : Hid (res = (⟨uc, uk, ulc, ulk, urc, urk⟩, true)) := by rw [hres.out]; exact if_neg (fun h => by omega)
      obtain ⟨g, cap, q1, hml, q2, g', o', cap', q3, q4⟩ := HC.out (by omega) (by omega)
      obtain ⟨c0, c1, c2, c3, c4, c5, -, -, -, -⟩ := q2
      simp only at c0 c1 c2 c3 c4 c5
      obtain ⟨j, rfl⟩ : ∃ j : Nat, i = (j : Int) := ⟨i.toNat, by omega⟩
      rw [Int.toNat_natCast] at q4
      have l0 : (j : Int) < (tt : Int) := by omega
      have l1 : (m : Int) < (ll : Int) := by omega
      clear HC HO
      go_enter Tryz.func24, Tryz.ntmps24
      go_upto_region 1 with fail
      rw [← hE.out]
      clear hE
      rw [← hn.out]
      have HT : Hid (Touch (fun _ => False) w E) := HTE.out
      have hz := HEB.out
      have hnn := HNN.out
      have st1 : (E.setCell ⟨n, 0, none⟩ (u64 uc)).cell? ⟨n, 1, none⟩ = some (u64 0) := by rw [cell_of_block (heap_setCell_same _ _ _ _ hz)]; rfl
      have st2 : ((E.setCell ⟨n, 0, none⟩ (u64 uc)).setCell ⟨n, 1, none⟩ (u64 uk)).cell? ⟨n, 2, none⟩ = some (u64 0) := by rw [cell_of_block (heap_setCell_same _ _ _ _ (heap_setCell_same _ _ _ _ hz))]; rfl
      have st3 : (((E.setCell ⟨n, 0, none⟩ (u64 uc)).setCell ⟨n, 1, none⟩ (u64 uk)).setCell ⟨n, 2, none⟩ (u64 ulc)).cell? ⟨n, 3, none⟩ = some (u64 0) := by rw [cell_of_block (heap_setCell_same _ _ _ _ (heap_setCell_same _ _ _ _ (heap_setCell_same _ _ _ _ hz)))]; rfl
      have st4 : ((((E.setCell ⟨n, 0, none⟩ (u64 uc)).setCell ⟨n, 1, none⟩ (u64 uk)).setCell ⟨n, 2, none⟩ (u64 ulc)).setCell ⟨n, 3, none⟩ (u64 ulk)).cell? ⟨n, 4, none⟩ = some (u64 0) := by rw [cell_of_block (heap_setCell_same _ _ _ _ (heap_setCell_same _ _ _ _ (heap_setCell_same _ _ _ _ (heap_setCell_same _ _ _ _ hz))))]; rfl
      have st5 : (((((E.setCell ⟨n, 0, none⟩ (u64 uc)).setCell ⟨n, 1, none⟩ (u64 uk)).setCell ⟨n, 2, none⟩ (u64 ulc)).setCell ⟨n, 3, none⟩ (u64 ulk)).setCell ⟨n, 4, none⟩ (u64 urc)).cell? ⟨n, 5, none⟩ = some (u64 0) := by rw [cell_of_block (heap_setCell_same _ _ _ _ (heap_setCell_same _ _ _ _ (heap_setCell_same _ _ _ _ (heap_setCell_same _ _ _ _ (heap_setCell_same _ _ _ _ hz)))))]; rfl
      have en0 : ((((((E.setCell ⟨n, 0, none⟩ (u64 uc)).setCell ⟨n, 1, none⟩ (u64 uk)).setCell ⟨n, 2, none⟩ (u64 ulc)).setCell ⟨n, 3, none⟩ (u64 ulk)).setCell ⟨n, 4, none⟩ (u64 urc)).setCell ⟨n, 5, none⟩ (u64 urk)).cell? ⟨n, 0, none⟩ = some (u64 uc) := by rw [cell_of_block (heap_setCell_same _ _ _ _ (heap_setCell_same _ _ _ _ (heap_setCell_same _ _ _ _ (heap_setCell_same _ _ _ _ (heap_setCell_same _ _ _ _ (heap_setCell_same _ _ _ _ hz))))))]; rfl
      have en1 : ((((((E.setCell ⟨n, 0, none⟩ (u64 uc)).setCell ⟨n, 1, none⟩ (u64 uk)).setCell ⟨n, 2, none⟩ (u64 ulc)).setCell ⟨n, 3, none⟩ (u64 ulk)).setCell ⟨n, 4, none⟩ (u64 urc)).setCell ⟨n, 5, none⟩ (u64 urk)).cell? ⟨n, 1, none⟩ = some (u64 uk) := by rw [cell_of_block (heap_setCell_same _ _ _ _ (heap_setCell_same _ _ _ _ (heap_setCell_same _ _ _ _ (heap_setCell_same _ _ _ _ (heap_setCell_same _ _ _ _ (heap_setCell_same _ _ _ _ hz))))))]; rfl
      have en2 : ((((((E.setCell ⟨n, 0, none⟩ (u64 uc)).setCell ⟨n, 1, none⟩ (u64 uk)).setCell ⟨n, 2, none⟩ (u64 ulc)).setCell ⟨n, 3, none⟩ (u64 ulk)).setCell ⟨n, 4, none⟩ (u64 urc)).setCell ⟨n, 5, none⟩ (u64 urk)).cell? ⟨n, 2, none⟩ = some (u64 ulc) := by rw [cell_of_block (heap_setCell_same _ _ _ _ (heap_setCell_same _ _ _ _ (heap_setCell_same _ _ _ _ (heap_setCell_same _ _ _ _ (heap_setCell_same _ _ _ _ (heap_setCell_same _ _ _ _ hz))))))]; rfl
      have en3 : ((((((E.setCell ⟨n, 0, none⟩ (u64 uc)).setCell ⟨n, 1, none⟩ (u64 uk)).setCell ⟨n, 2, none⟩ (u64 ulc)).setCell ⟨n, 3, none⟩ (u64 ulk)).setCell ⟨n, 4, none⟩ (u64 urc)).setCell ⟨n, 5, none⟩ (u64 urk)).cell? ⟨n, 3, none⟩ = some (u64 ulk) := by rw [cell_of_block (heap_setCell_same _ _ _ _ (heap_setCell_same _ _ _ _ (heap_setCell_same _ _ _ _ (heap_setCell_same _ _ _ _ (heap_setCell_same _ _ _ _ (heap_setCell_same _ _ _ _ hz))))))]; rfl
      have en4 : ((((((E.setCell ⟨n, 0, none⟩ (u64 uc)).setCell ⟨n, 1, none⟩ (u64 uk)).setCell ⟨n, 2, none⟩ (u64 ulc)).setCell ⟨n, 3, none⟩ (u64 ulk)).setCell ⟨n, 4, none⟩ (u64 urc)).setCell ⟨n, 5, none⟩ (u64 urk)).cell? ⟨n, 4, none⟩ = some (u64 urc) := by rw [cell_of_block (heap_setCell_same _ _ _ _ (heap_setCell_same _ _ _ _ (heap_setCell_same _ _ _ _ (heap_setCell_same _ _ _ _ (heap_setCell_same _ _ _ _ (heap_setCell_same _ _ _ _ hz))))))]; rfl
      have en5 : ((((((E.setCell ⟨n, 0, none⟩ (u64 uc)).setCell ⟨n, 1, none⟩ (u64 uk)).setCell ⟨n, 2, none⟩ (u64 ulc)).setCell ⟨n, 3, none⟩ (u64 ulk)).setCell ⟨n, 4, none⟩ (u64 urc)).setCell ⟨n, 5, none⟩ (u64 urk)).cell? ⟨n, 5, none⟩ = some (u64 urk) := by rw [cell_of_block (heap_setCell_same _ _ _ _ (heap_setCell_same _ _ _ _ (heap_setCell_same _ _ _ _ (heap_setCell_same _ _ _ _ (heap_setCell_same _ _ _ _ (heap_setCell_same _ _ _ _ hz))))))]; rfl
      have fz0 : E.frozen? ⟨n, 0, none⟩ = false := free_of_block hz
      have fz1 : E.frozen? ⟨n, 1, none⟩ = false := free_of_block hz
      have fz2 : E.frozen? ⟨n, 2, none⟩ = false := free_of_block hz
      have fz3 : E.frozen? ⟨n, 3, none⟩ = false := free_of_block hz
      have fz4 : E.frozen? ⟨n, 4, none⟩ = false := free_of_block hz
      have fz5 : E.frozen? ⟨n, 5, none⟩ = false := free_of_block hz
      have cz0 : E.cell? ⟨n, 0, none⟩ = some (u64 0) := by rw [cell_of_block hz]; rfl
      have cz1 : E.cell? ⟨n, 1, none⟩ = some (u64 0) := by rw [cell_of_block hz]; rfl
      have cz2 : E.cell? ⟨n, 2, none⟩ = some (u64 0) := by rw [cell_of_block hz]; rfl
      have cz3 : E.cell? ⟨n, 3, none⟩ = some (u64 0) := by rw [cell_of_block hz]; rfl
      have cz4 : E.cell? ⟨n, 4, none⟩ = some (u64 0) := by rw [cell_of_block hz]; rfl
      have cz5 : E.cell? ⟨n, 5, none⟩ = some (u64 0) := by rw [cell_of_block hz]; rfl
      have HF : Hid (Touch (fun _ => False) w ((((((E.setCell ⟨n, 0, none⟩ (u64 uc)).setCell ⟨n, 1, none⟩ (u64 uk)).setCell ⟨n, 2, none⟩ (u64 ulc)).setCell ⟨n, 3, none⟩ (u64 ulk)).setCell ⟨n, 4, none⟩ (u64 urc)).setCell ⟨n, 5, none⟩ (u64 urk))) := ((((((HT.out.fresh n 0 (u64 uc) hnn).fresh n 1 (u64 uk) hnn).fresh n 2 (u64 ulc) hnn).fresh n 3 (u64 ulk) hnn).fresh n 4 (u64 urc) hnn).fresh n 5 (u64 urk) hnn)
      clear hz hnn
      go_wp2_with fail
      go_region
      all_goals (try go_wp2_with fail)
      all_goals (refine bodyPost_ret (v := .tuple #[.agg #[u64 uc, u64 uk, u64 ulc, u64 ulk, u64 urc, u64 urk], .bool true]) (by simp [results, Tryz.results24, go_sem, en0, en1, en2, en3, en4, en5]) rfl ?_)
      all_goals exact ⟨by (rw [HX.out] <;> rfl), HF.out.drew⟩
end Go.Proofs.YtdnhoicfolkbnaaGreat

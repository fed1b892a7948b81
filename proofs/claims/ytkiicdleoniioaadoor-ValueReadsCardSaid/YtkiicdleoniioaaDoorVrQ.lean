/- The contract of value.Read on any bytes. -/
import Derived.Test.YtkiicdleoniioaaDoorVrP
namespace Go.Proofs.YtkiicdleoniioaaDoor
open Go.RowKit
set_option linter.unusedVariables false
set_option linter.unusedSimpArgs false
set_option maxRecDepth 100000

theorem Rd.backV {w wx : World} {p g : Nat} {bs : List UInt8} {er x : Int} {ao : Option Addr} {c : Nat} (hp : w.heap[p]? = some (.cells #[.slice ao bs.length c, .int .i64 er] 57 (0, 0))) (hl : bs.length ≤ c) (hc : c ≤ 9223372036854775807) (hL : Lies w g ao bs) (hg : g < w.heap.size)
    (t : Touch (· = p) w wx) (hb : wx.heap[p]? = some (.cells #[.slice ao bs.length c, .int .i64 x] 57 (0, 0))) : Rd wx p g bs x :=
  ⟨ao, c, hb, hl, hc, hL.keep fun e => t.block g hg (fun e' => hL.ne hp e e'.symm), Nat.lt_of_lt_of_le hg t.size⟩

/-- What Read leaves: the value and what is left, or an error, nothing, and the Reader as it was. -/
def VRPost (p g : Nat) (bs rest : List UInt8) (ev : Int) (v : V) (w : World) (e : Ending) (w' : World) : Prop :=
  (ev = 0 ∧ e = .returned v.val ∧ Rd w' p g rest 0 ∧ Touch (· = p) w w') ∨ (ev ≠ 0 ∧ e = .returned (V.val V0) ∧ Rd w' p g bs ev ∧ Touch (· = p) w w')

set_option maxHeartbeats 4000000 in
theorem vread_any (p g : Nat) (bs : List UInt8) (w : World) (h : Rd w p g bs 0) (hU : TabsU w) (h3 : p ≠ Tryd.lays196_ren.g 3) (h4 : p ≠ Tryd.lays196_ren.g 4) :
    Calls Tryd.prog 6 #[.pointer (some ⟨p, 0, none⟩)] w (VRPost p g bs (partsOf bs).2.2 (errVal bs) (partsOf bs).2.1 w) := by
  have HP : Hid (∀ w, Rd w p g bs 0 → Calls Tryd.prog 25 #[.pointer (some ⟨p, 0, none⟩)] w fun e w' => e = .returned (partsOf bs).2.1.val ∧ Rd w' p g (partsOf bs).2.2 (partsOf bs).1 ∧ Touch (· = p) w w') := fun w h => parts_full p g bs w h
  have HW : Hid (∀ w, TabsU w → Calls Tryd.prog 26 #[(partsOf bs).2.1.val] w fun e w' => e = .returned (.bool (isWr (partsOf bs).2.1)) ∧ Touch (fun _ => False) w w') := fun w hw => w_any (partsOf bs).2.1 (by have := (parts_fits bs).2; omega) w hw
  have hE : errVal bs = if (partsOf bs).1 ≠ 0 then (partsOf bs).1 else if isWr (partsOf bs).2.1 = true then 0 else 11 := by
    unfold errVal isWr
    simp
  generalize partsOf bs = P at *
  obtain ⟨er, v, rest⟩ := P
  simp only at HP HW hE ⊢
  generalize errVal bs = ev at *
  have hp := h.lt
  have hg := h.ltBytes
  obtain ⟨ao, cap, hpc, hlc, hcc, hLi, hgl⟩ := h
  have HR0 : Hid (Rd w p g bs 0) := ⟨ao, cap, hpc, hlc, hcc, hLi, hgl⟩
  have HU : Hid (TabsU w) := hU
  have H34 : Hid (p ≠ Tryd.lays196_ren.g 3 ∧ p ≠ Tryd.lays196_ren.g 4) := ⟨h3, h4⟩
  have HB : Hid (∀ wx x, Touch (· = p) w wx → wx.heap[p]? = some (.cells #[.slice ao bs.length cap, .int .i64 x] 57 (0, 0)) → Rd wx p g bs x) := fun wx x t hb => Rd.backV hpc hlc hcc hLi hg t hb
  have c0 : w.cell? ⟨p, 0, none⟩ = some (.slice ao bs.length cap) := by rw [cell_of_block hpc]; rfl
  have c1 : w.cell? ⟨p, 1, none⟩ = some (.int .i64 0) := by rw [cell_of_block hpc]; rfl
  have HPG : Hid (p < w.heap.size ∧ g < w.heap.size) := ⟨hp, hg⟩
  clear hp hg hpc hlc hcc hLi hgl hU h3 h4
  generalize bs.length = N at *
  have a0 := old1 (.cells #[.int .i64 0, .int .i64 0, .float .f64 0, .string ⟨#[]⟩] 31) c0
  have a1 := old1 (.cells #[.int .i64 0, .int .i64 0, .float .f64 0, .string ⟨#[]⟩] 31) c1
  clear c0 c1
  generalize hV : isWr v = B at *
  clear hV
  obtain ⟨k, n, f, s⟩ := v
  simp only [V.val] at *
  have HE : Hid (ev = if er ≠ 0 then er else if B = true then 0 else 11) := hE
  clear hE
  have hnot : ∀ (x : Bool) (w : World), (Op.unary .not (.bool x)).run Tryd.prog w = .ok (.bool (!x)) w := fun _ _ => rfl
  have hst := run_store_f64 Tryd.prog
  go_enter Tryd.func6, Tryd.ntmps6
  go_wp2_with fail
  refine (HP.out _ ((HR0.out.alloc _).alloc _)).mono ?_
  rintro e w1 ⟨rfl, hR1, hT1⟩
  obtain ⟨hp, hg⟩ := HPG.out
  have hz := hT1.size
  have hb1 : w1.heap[w.heap.size]? = some (.cells #[.int .i64 0, .int .i64 0, .float .f64 0, .string ⟨#[]⟩] 31) := (hT1.block _ (by simp; omega) (by omega)).trans ((Below.heap_alloc _ _ _ (by simp)).trans (heap_alloc_new _ _))
  have ha1 : w1.heap[w.heap.size + 1]? = some (.cells #[.slice ao N cap, .int .i64 0] 57) := (hT1.block _ (by simp) (by omega)).trans (by have := heap_alloc_new (w.alloc (.cells #[.int .i64 0, .int .i64 0, .float .f64 0, .string ⟨#[]⟩] 31)) (.cells #[.slice ao N cap, .int .i64 0] 57); simpa using this)
  have hlt1 := lt_of_heap hb1
  have hlt2 := lt_of_heap ha1
  have hTw : Touch (· = p) w w1 := (((Touch.refl _ w).alloc _).alloc _).then hT1 (fun _ _ h => h)
  have HU1 : Hid (TabsU (w1.alloc (.cells #[.int .i64 k, .int .i64 n, .float .f64 f, .string s] 31))) := (HU.out.keepT hTw (Ne.symm H34.out.1) (Ne.symm H34.out.2)).keep ((Touch.refl _ _).alloc _)
  have HR1 : Hid (Rd (w1.alloc (.cells #[.int .i64 k, .int .i64 n, .float .f64 f, .string s] 31)) p g rest er) := hR1.alloc _
  have HB1 : Hid ((w1.alloc (.cells #[.int .i64 k, .int .i64 n, .float .f64 f, .string s] 31)).heap[w.heap.size]? = some (.cells #[.int .i64 0, .int .i64 0, .float .f64 0, .string ⟨#[]⟩] 31)) := (Below.heap_alloc _ _ _ hlt1).trans hb1
  have HA1 : Hid ((w1.alloc (.cells #[.int .i64 k, .int .i64 n, .float .f64 f, .string s] 31)).heap[w.heap.size + 1]? = some (.cells #[.slice ao N cap, .int .i64 0] 57)) := (Below.heap_alloc _ _ _ hlt2).trans ha1
  have HL1 : Hid ((w1.alloc (.cells #[.int .i64 k, .int .i64 n, .float .f64 f, .string s] 31)).heap[w1.heap.size]? = some (.cells #[.int .i64 k, .int .i64 n, .float .f64 f, .string s] 31)) := heap_alloc_new _ _
  have HT1 : Hid (Touch (· = p) w (w1.alloc (.cells #[.int .i64 k, .int .i64 n, .float .f64 f, .string s] 31))) := hTw.alloc _
  have HPG2 : Hid (p < w.heap.size ∧ g < w.heap.size ∧ w.heap.size < w1.heap.size) := ⟨hp, hg, hlt1⟩
  obtain ⟨wa, hwa⟩ : ∃ wa, Hid (wa = w1.alloc (.cells #[.int .i64 k, .int .i64 n, .float .f64 f, .string s] 31)) := ⟨_, rfl⟩
  clear hR1 hT1 hb1 ha1 HR0 hz hTw HU H34 HP hp hg hlt1 hlt2 HPG a0 a1
  go_wp2_with fail
  rw [← hwa.out] at HU1 HR1 HB1 HA1 HL1 HT1 ⊢
  clear hwa
  refine (err_any p g rest er _ HR1.out).mono ?_
  rintro e w2 ⟨rfl, hw2⟩
  rw [hw2]
  clear hw2
  by_cases her : er = 0
  case neg =>
    have hz : (er == 0) = false := by simpa using her
    have hx : ev = er := by rw [HE.out, if_pos her]
    subst hx
    have HX : Hid (ev ≠ 0) := her
    obtain ⟨hp, hg, hlt1⟩ := HPG2.out
    obtain ⟨M, hM⟩ : ∃ M, M = rest.length := ⟨_, rfl⟩
    have hRd : Rd wa p g rest ev := HR1.out
    unfold Rd at hRd
    rw [← hM] at hRd
    obtain ⟨er5, he5⟩ : ∃ er5, er5 = ev := ⟨_, rfl⟩
    rw [← he5] at hRd
    obtain ⟨ao5, c5, hp5, _⟩ := hRd
    have d1 : wa.cell? ⟨w.heap.size + 1, 0, none⟩ = some (.slice ao N cap) := by rw [cell_of_block HA1.out]; rfl
    have d2 : wa.cell? ⟨w.heap.size + 1, 1, none⟩ = some (.int .i64 0) := by rw [cell_of_block HA1.out]; rfl
    have d3 : wa.cell? ⟨p, 0, none⟩ = some (.slice ao5 M c5) := by rw [cell_of_block hp5]; rfl
    have d4 : wa.cell? ⟨p, 1, none⟩ = some (.int .i64 er5) := by rw [cell_of_block hp5]; rfl
    have d5 : wa.frozen? ⟨p, 0, none⟩ = false := free_of_block hp5
    have d6 : wa.frozen? ⟨p, 1, none⟩ = false := free_of_block hp5
    have e1 : (wa.setCell ⟨p, 0, none⟩ (.slice ao N cap)).heap[p]? = some (.cells #[.slice ao N cap, .int .i64 er5] 57 (0, 0)) := by rw [heap_setCell_same _ _ _ _ hp5]; rfl
    have e2 : ((wa.setCell ⟨p, 0, none⟩ (.slice ao N cap)).setCell ⟨p, 1, none⟩ (.int .i64 0)).heap[p]? = some (.cells #[.slice ao N cap, .int .i64 0] 57 (0, 0)) := by rw [heap_setCell_same _ _ _ _ e1]; rfl
    have e3 : (((wa.setCell ⟨p, 0, none⟩ (.slice ao N cap)).setCell ⟨p, 1, none⟩ (.int .i64 0)).setCell ⟨p, 1, none⟩ (.int .i64 ev)).heap[p]? = some (.cells #[.slice ao N cap, .int .i64 ev] 57 (0, 0)) := by rw [heap_setCell_same _ _ _ _ e2]; rfl
    have hpn : p ≠ w.heap.size := by omega
    have hpn1 : p ≠ w.heap.size + 1 := by omega
    have TP0 : Touch (· = p) wa (wa.setCell ⟨p, 0, none⟩ (.slice ao N cap)) := (Touch.refl _ _).setCell ⟨p, 0, none⟩ _ (fun _ => rfl)
    have TP1 := TP0.setCell ⟨p, 1, none⟩ (.int .i64 0) (fun _ => rfl)
    have TP := TP1.setCell ⟨p, 1, none⟩ (.int .i64 ev) (fun _ => rfl)
    have hB : (((wa.setCell ⟨p, 0, none⟩ (.slice ao N cap)).setCell ⟨p, 1, none⟩ (.int .i64 0)).setCell ⟨p, 1, none⟩ (.int .i64 ev)).heap[w.heap.size]? = some (.cells #[.int .i64 0, .int .i64 0, .float .f64 0, .string ⟨#[]⟩] 31 (0, 0)) := (TP.block _ (lt_of_heap HB1.out) (by omega)).trans HB1.out
    have r0 : (((wa.setCell ⟨p, 0, none⟩ (.slice ao N cap)).setCell ⟨p, 1, none⟩ (.int .i64 0)).setCell ⟨p, 1, none⟩ (.int .i64 ev)).cell? ⟨w.heap.size, 0, none⟩ = some (.int .i64 0) := by rw [cell_of_block hB]; rfl
    have r1 : (((wa.setCell ⟨p, 0, none⟩ (.slice ao N cap)).setCell ⟨p, 1, none⟩ (.int .i64 0)).setCell ⟨p, 1, none⟩ (.int .i64 ev)).cell? ⟨w.heap.size, 1, none⟩ = some (.int .i64 0) := by rw [cell_of_block hB]; rfl
    have r2 : (((wa.setCell ⟨p, 0, none⟩ (.slice ao N cap)).setCell ⟨p, 1, none⟩ (.int .i64 0)).setCell ⟨p, 1, none⟩ (.int .i64 ev)).cell? ⟨w.heap.size, 2, none⟩ = some (.float .f64 0) := by rw [cell_of_block hB]; rfl
    have r3 : (((wa.setCell ⟨p, 0, none⟩ (.slice ao N cap)).setCell ⟨p, 1, none⟩ (.int .i64 0)).setCell ⟨p, 1, none⟩ (.int .i64 ev)).cell? ⟨w.heap.size, 3, none⟩ = some (.string ⟨#[]⟩) := by rw [cell_of_block hB]; rfl
    have y0 : (((wa.setCell ⟨p, 0, none⟩ (.slice ao N cap)).setCell ⟨p, 1, none⟩ (.int .i64 0)).setCell ⟨p, 1, none⟩ (.int .i64 ev)).frozen? ⟨w.heap.size, 0, none⟩ = false := free_of_block hB
    have y1 : (((wa.setCell ⟨p, 0, none⟩ (.slice ao N cap)).setCell ⟨p, 1, none⟩ (.int .i64 0)).setCell ⟨p, 1, none⟩ (.int .i64 ev)).frozen? ⟨w.heap.size, 1, none⟩ = false := free_of_block hB
    have y2 : (((wa.setCell ⟨p, 0, none⟩ (.slice ao N cap)).setCell ⟨p, 1, none⟩ (.int .i64 0)).setCell ⟨p, 1, none⟩ (.int .i64 ev)).frozen? ⟨w.heap.size, 2, none⟩ = false := free_of_block hB
    have y3 : (((wa.setCell ⟨p, 0, none⟩ (.slice ao N cap)).setCell ⟨p, 1, none⟩ (.int .i64 0)).setCell ⟨p, 1, none⟩ (.int .i64 ev)).frozen? ⟨w.heap.size, 3, none⟩ = false := free_of_block hB
    obtain ⟨W3, hW3⟩ : ∃ W3, Hid (W3 = (((wa.setCell ⟨p, 0, none⟩ (.slice ao N cap)).setCell ⟨p, 1, none⟩ (.int .i64 0)).setCell ⟨p, 1, none⟩ (.int .i64 ev))) := ⟨_, Eq.refl _⟩
    have HF : Hid (((((W3.setCell ⟨w.heap.size, 0, none⟩ (.int .i64 0)).setCell ⟨w.heap.size, 1, none⟩ (.int .i64 0)).setCell ⟨w.heap.size, 2, none⟩ (.float .f64 0)).setCell ⟨w.heap.size, 3, none⟩ (.string ⟨#[]⟩)).heap[w.heap.size]? = some (.cells #[.int .i64 0, .int .i64 0, .float .f64 0, .string ⟨#[]⟩] 31 (0, 0))) := by rw [hW3.out]; exact put4R _ _ _ _ hB
    have HTT : Hid (Touch (· = p) w ((((W3.setCell ⟨w.heap.size, 0, none⟩ (.int .i64 0)).setCell ⟨w.heap.size, 1, none⟩ (.int .i64 0)).setCell ⟨w.heap.size, 2, none⟩ (.float .f64 0)).setCell ⟨w.heap.size, 3, none⟩ (.string ⟨#[]⟩))) := by rw [hW3.out]; exact touch4R_new ((HT1.out).trans TP) _ (Nat.le_refl _) _ _ _ _
    have HRR : Hid (Rd ((((W3.setCell ⟨w.heap.size, 0, none⟩ (.int .i64 0)).setCell ⟨w.heap.size, 1, none⟩ (.int .i64 0)).setCell ⟨w.heap.size, 2, none⟩ (.float .f64 0)).setCell ⟨w.heap.size, 3, none⟩ (.string ⟨#[]⟩)) p g bs ev) := by
      refine HB.out _ _ HTT.out ?_
      rw [(touch4R W3 _ _ _ _ _).block p (by rw [hW3.out]; exact lt_of_heap e3) (by omega), hW3.out]
      exact e3
    clear hp5 e1 e2 e3 TP0 TP1 TP hB HR1 HB1 HA1 HL1 HT1 HU1
    go_wp2_with fail
    rw [← hW3.out]
    have f0 := cell_of_block (i := 0) HF.out
    have f1 := cell_of_block (i := 1) HF.out
    have f2 := cell_of_block (i := 2) HF.out
    have f3 := cell_of_block (i := 3) HF.out
    refine bodyPost_ret (v := .agg #[.int .i64 0, .int .i64 0, .float .f64 0, .string ⟨#[]⟩]) ?_ rfl (.inr ⟨HX.out, rfl, HRR.out, HTT.out⟩)
    simp [results, Tryd.results6, go_sem, f0, f1, f2, f3]
  subst her
  cases B
  · have hx : ev = 11 := by rw [HE.out]; simp
    subst hx
    have l0 : wa.cell? ⟨w1.heap.size, 0, none⟩ = some (.int .i64 k) := by rw [cell_of_block HL1.out]; rfl
    have l1 : wa.cell? ⟨w1.heap.size, 1, none⟩ = some (.int .i64 n) := by rw [cell_of_block HL1.out]; rfl
    have l2 : wa.cell? ⟨w1.heap.size, 2, none⟩ = some (.float .f64 f) := by rw [cell_of_block HL1.out]; rfl
    have l3 : wa.cell? ⟨w1.heap.size, 3, none⟩ = some (.string s) := by rw [cell_of_block HL1.out]; rfl
    go_wp2_with fail
    clear l0 l1 l2 l3
    refine (HW.out _ HU1.out).mono ?_
    rintro e w2 ⟨rfl, hT2⟩
    have HX : Hid ((11 : Int) ≠ 0) := by unfold Hid; decide
    obtain ⟨hp, hg, hlt1⟩ := HPG2.out
    have hb2 : w2.heap[w.heap.size]? = some (.cells #[.int .i64 0, .int .i64 0, .float .f64 0, .string ⟨#[]⟩] 31) := (hT2.block _ (lt_of_heap HB1.out) id).trans HB1.out
    have ha2 : w2.heap[w.heap.size + 1]? = some (.cells #[.slice ao N cap, .int .i64 0] 57) := (hT2.block _ (lt_of_heap HA1.out) id).trans HA1.out
    have hTT : Touch (· = p) w w2 := HT1.out.then hT2 (fun _ _ h => h.elim)
    obtain ⟨M, hM⟩ : ∃ M, M = rest.length := ⟨_, rfl⟩
    have hRd : Rd w2 p g rest 0 := HR1.out.keep hT2 id (fun _ => id)
    unfold Rd at hRd
    rw [← hM] at hRd
    obtain ⟨er5, he5⟩ : ∃ er5 : Int, er5 = 0 := ⟨_, rfl⟩
    rw [← he5] at hRd
    obtain ⟨ao5, c5, hp5, _⟩ := hRd
    have d1 : w2.cell? ⟨w.heap.size + 1, 0, none⟩ = some (.slice ao N cap) := by rw [cell_of_block ha2]; rfl
    have d2 : w2.cell? ⟨w.heap.size + 1, 1, none⟩ = some (.int .i64 0) := by rw [cell_of_block ha2]; rfl
    have d3 : w2.cell? ⟨p, 0, none⟩ = some (.slice ao5 M c5) := by rw [cell_of_block hp5]; rfl
    have d4 : w2.cell? ⟨p, 1, none⟩ = some (.int .i64 er5) := by rw [cell_of_block hp5]; rfl
    have d5 : w2.frozen? ⟨p, 0, none⟩ = false := free_of_block hp5
    have d6 : w2.frozen? ⟨p, 1, none⟩ = false := free_of_block hp5
    have e1 : (w2.setCell ⟨p, 0, none⟩ (.slice ao N cap)).heap[p]? = some (.cells #[.slice ao N cap, .int .i64 er5] 57 (0, 0)) := by rw [heap_setCell_same _ _ _ _ hp5]; rfl
    have e2 : ((w2.setCell ⟨p, 0, none⟩ (.slice ao N cap)).setCell ⟨p, 1, none⟩ (.int .i64 0)).heap[p]? = some (.cells #[.slice ao N cap, .int .i64 0] 57 (0, 0)) := by rw [heap_setCell_same _ _ _ _ e1]; rfl
    have e3 : (((w2.setCell ⟨p, 0, none⟩ (.slice ao N cap)).setCell ⟨p, 1, none⟩ (.int .i64 0)).setCell ⟨p, 1, none⟩ (.int .i64 11)).heap[p]? = some (.cells #[.slice ao N cap, .int .i64 11] 57 (0, 0)) := by rw [heap_setCell_same _ _ _ _ e2]; rfl
    have hpn : p ≠ w.heap.size := by omega
    have hpn1 : p ≠ w.heap.size + 1 := by omega
    have TP0 : Touch (· = p) w2 (w2.setCell ⟨p, 0, none⟩ (.slice ao N cap)) := (Touch.refl _ _).setCell ⟨p, 0, none⟩ _ (fun _ => rfl)
    have TP1 := TP0.setCell ⟨p, 1, none⟩ (.int .i64 0) (fun _ => rfl)
    have TP := TP1.setCell ⟨p, 1, none⟩ (.int .i64 11) (fun _ => rfl)
    have hB : (((w2.setCell ⟨p, 0, none⟩ (.slice ao N cap)).setCell ⟨p, 1, none⟩ (.int .i64 0)).setCell ⟨p, 1, none⟩ (.int .i64 11)).heap[w.heap.size]? = some (.cells #[.int .i64 0, .int .i64 0, .float .f64 0, .string ⟨#[]⟩] 31 (0, 0)) := (TP.block _ (lt_of_heap hb2) (by omega)).trans hb2
    have r0 : (((w2.setCell ⟨p, 0, none⟩ (.slice ao N cap)).setCell ⟨p, 1, none⟩ (.int .i64 0)).setCell ⟨p, 1, none⟩ (.int .i64 11)).cell? ⟨w.heap.size, 0, none⟩ = some (.int .i64 0) := by rw [cell_of_block hB]; rfl
    have r1 : (((w2.setCell ⟨p, 0, none⟩ (.slice ao N cap)).setCell ⟨p, 1, none⟩ (.int .i64 0)).setCell ⟨p, 1, none⟩ (.int .i64 11)).cell? ⟨w.heap.size, 1, none⟩ = some (.int .i64 0) := by rw [cell_of_block hB]; rfl
    have r2 : (((w2.setCell ⟨p, 0, none⟩ (.slice ao N cap)).setCell ⟨p, 1, none⟩ (.int .i64 0)).setCell ⟨p, 1, none⟩ (.int .i64 11)).cell? ⟨w.heap.size, 2, none⟩ = some (.float .f64 0) := by rw [cell_of_block hB]; rfl
    have r3 : (((w2.setCell ⟨p, 0, none⟩ (.slice ao N cap)).setCell ⟨p, 1, none⟩ (.int .i64 0)).setCell ⟨p, 1, none⟩ (.int .i64 11)).cell? ⟨w.heap.size, 3, none⟩ = some (.string ⟨#[]⟩) := by rw [cell_of_block hB]; rfl
    have y0 : (((w2.setCell ⟨p, 0, none⟩ (.slice ao N cap)).setCell ⟨p, 1, none⟩ (.int .i64 0)).setCell ⟨p, 1, none⟩ (.int .i64 11)).frozen? ⟨w.heap.size, 0, none⟩ = false := free_of_block hB
    have y1 : (((w2.setCell ⟨p, 0, none⟩ (.slice ao N cap)).setCell ⟨p, 1, none⟩ (.int .i64 0)).setCell ⟨p, 1, none⟩ (.int .i64 11)).frozen? ⟨w.heap.size, 1, none⟩ = false := free_of_block hB
    have y2 : (((w2.setCell ⟨p, 0, none⟩ (.slice ao N cap)).setCell ⟨p, 1, none⟩ (.int .i64 0)).setCell ⟨p, 1, none⟩ (.int .i64 11)).frozen? ⟨w.heap.size, 2, none⟩ = false := free_of_block hB
    have y3 : (((w2.setCell ⟨p, 0, none⟩ (.slice ao N cap)).setCell ⟨p, 1, none⟩ (.int .i64 0)).setCell ⟨p, 1, none⟩ (.int .i64 11)).frozen? ⟨w.heap.size, 3, none⟩ = false := free_of_block hB
    obtain ⟨W3, hW3⟩ : ∃ W3, Hid (W3 = (((w2.setCell ⟨p, 0, none⟩ (.slice ao N cap)).setCell ⟨p, 1, none⟩ (.int .i64 0)).setCell ⟨p, 1, none⟩ (.int .i64 11))) := ⟨_, Eq.refl _⟩
    have HF : Hid (((((W3.setCell ⟨w.heap.size, 0, none⟩ (.int .i64 0)).setCell ⟨w.heap.size, 1, none⟩ (.int .i64 0)).setCell ⟨w.heap.size, 2, none⟩ (.float .f64 0)).setCell ⟨w.heap.size, 3, none⟩ (.string ⟨#[]⟩)).heap[w.heap.size]? = some (.cells #[.int .i64 0, .int .i64 0, .float .f64 0, .string ⟨#[]⟩] 31 (0, 0))) := by rw [hW3.out]; exact put4R _ _ _ _ hB
    have HTT : Hid (Touch (· = p) w ((((W3.setCell ⟨w.heap.size, 0, none⟩ (.int .i64 0)).setCell ⟨w.heap.size, 1, none⟩ (.int .i64 0)).setCell ⟨w.heap.size, 2, none⟩ (.float .f64 0)).setCell ⟨w.heap.size, 3, none⟩ (.string ⟨#[]⟩))) := by rw [hW3.out]; exact touch4R_new ((hTT).trans TP) _ (Nat.le_refl _) _ _ _ _
    have HRR : Hid (Rd ((((W3.setCell ⟨w.heap.size, 0, none⟩ (.int .i64 0)).setCell ⟨w.heap.size, 1, none⟩ (.int .i64 0)).setCell ⟨w.heap.size, 2, none⟩ (.float .f64 0)).setCell ⟨w.heap.size, 3, none⟩ (.string ⟨#[]⟩)) p g bs 11) := by
      refine HB.out _ _ HTT.out ?_
      rw [(touch4R W3 _ _ _ _ _).block p (by rw [hW3.out]; exact lt_of_heap e3) (by omega), hW3.out]
      exact e3
    clear hp5 e1 e2 e3 TP0 TP1 TP hB hb2 ha2 hTT hT2 HR1 HB1 HA1 HL1 HT1 HU1
    go_wp2_with fail
    rw [← hW3.out]
    have f0 := cell_of_block (i := 0) HF.out
    have f1 := cell_of_block (i := 1) HF.out
    have f2 := cell_of_block (i := 2) HF.out
    have f3 := cell_of_block (i := 3) HF.out
    refine bodyPost_ret (v := .agg #[.int .i64 0, .int .i64 0, .float .f64 0, .string ⟨#[]⟩]) ?_ rfl (.inr ⟨HX.out, rfl, HRR.out, HTT.out⟩)
    simp [results, Tryd.results6, go_sem, f0, f1, f2, f3]
  · have hx : ev = 0 := by rw [HE.out]; simp
    subst hx
    have l0 : wa.cell? ⟨w1.heap.size, 0, none⟩ = some (.int .i64 k) := by rw [cell_of_block HL1.out]; rfl
    have l1 : wa.cell? ⟨w1.heap.size, 1, none⟩ = some (.int .i64 n) := by rw [cell_of_block HL1.out]; rfl
    have l2 : wa.cell? ⟨w1.heap.size, 2, none⟩ = some (.float .f64 f) := by rw [cell_of_block HL1.out]; rfl
    have l3 : wa.cell? ⟨w1.heap.size, 3, none⟩ = some (.string s) := by rw [cell_of_block HL1.out]; rfl
    go_wp2_with fail
    clear l0 l1 l2 l3
    refine (HW.out _ HU1.out).mono ?_
    rintro e w2 ⟨rfl, hT2⟩
    obtain ⟨hp, hg, hlt1⟩ := HPG2.out
    have hb2 : w2.heap[w.heap.size]? = some (.cells #[.int .i64 0, .int .i64 0, .float .f64 0, .string ⟨#[]⟩] 31) := (hT2.block _ (lt_of_heap HB1.out) id).trans HB1.out
    have hl2 : w2.heap[w1.heap.size]? = some (.cells #[.int .i64 k, .int .i64 n, .float .f64 f, .string s] 31) := (hT2.block _ (lt_of_heap HL1.out) id).trans HL1.out
    have hR2 : Rd w2 p g rest 0 := HR1.out.keep hT2 id (fun _ => id)
    have hTT : Touch (· = p) w w2 := HT1.out.then hT2 (fun _ _ h => h.elim)
    have m0 : w2.cell? ⟨w1.heap.size, 0, none⟩ = some (.int .i64 k) := by rw [cell_of_block hl2]; rfl
    have m1 : w2.cell? ⟨w1.heap.size, 1, none⟩ = some (.int .i64 n) := by rw [cell_of_block hl2]; rfl
    have m2 : w2.cell? ⟨w1.heap.size, 2, none⟩ = some (.float .f64 f) := by rw [cell_of_block hl2]; rfl
    have m3 : w2.cell? ⟨w1.heap.size, 3, none⟩ = some (.string s) := by rw [cell_of_block hl2]; rfl
    have r0 : w2.cell? ⟨w.heap.size, 0, none⟩ = some (.int .i64 0) := by rw [cell_of_block hb2]; rfl
    have r1 : w2.cell? ⟨w.heap.size, 1, none⟩ = some (.int .i64 0) := by rw [cell_of_block hb2]; rfl
    have r2 : w2.cell? ⟨w.heap.size, 2, none⟩ = some (.float .f64 0) := by rw [cell_of_block hb2]; rfl
    have r3 : w2.cell? ⟨w.heap.size, 3, none⟩ = some (.string ⟨#[]⟩) := by rw [cell_of_block hb2]; rfl
    have y0 : w2.frozen? ⟨w.heap.size, 0, none⟩ = false := free_of_block hb2
    have y1 : w2.frozen? ⟨w.heap.size, 1, none⟩ = false := free_of_block hb2
    have y2 : w2.frozen? ⟨w.heap.size, 2, none⟩ = false := free_of_block hb2
    have y3 : w2.frozen? ⟨w.heap.size, 3, none⟩ = false := free_of_block hb2
    have HF : Hid (((((w2.setCell ⟨w.heap.size, 0, none⟩ (.int .i64 k)).setCell ⟨w.heap.size, 1, none⟩ (.int .i64 n)).setCell ⟨w.heap.size, 2, none⟩ (.float .f64 f)).setCell ⟨w.heap.size, 3, none⟩ (.string s)).heap[w.heap.size]? = some (.cells #[.int .i64 k, .int .i64 n, .float .f64 f, .string s] 31 (0, 0))) := put4R _ _ _ _ hb2
    have HT : Hid (Touch (· = p) w ((((w2.setCell ⟨w.heap.size, 0, none⟩ (.int .i64 k)).setCell ⟨w.heap.size, 1, none⟩ (.int .i64 n)).setCell ⟨w.heap.size, 2, none⟩ (.float .f64 f)).setCell ⟨w.heap.size, 3, none⟩ (.string s))) := touch4R_new hTT _ (Nat.le_refl _) _ _ _ _
    have HR : Hid (Rd ((((w2.setCell ⟨w.heap.size, 0, none⟩ (.int .i64 k)).setCell ⟨w.heap.size, 1, none⟩ (.int .i64 n)).setCell ⟨w.heap.size, 2, none⟩ (.float .f64 f)).setCell ⟨w.heap.size, 3, none⟩ (.string s)) p g rest 0) := hR2.keep (touch4R _ _ _ _ _ _) (by omega) (fun _ => by omega)
    clear hp hg hlt1 hb2 hl2 hR2 hTT hT2 HB1 HL1 HR1 HT1 HU1 HW HPG2 HA1
    go_wp2_with fail
    have f0 := cell_of_block (i := 0) HF.out
    have f1 := cell_of_block (i := 1) HF.out
    have f2 := cell_of_block (i := 2) HF.out
    have f3 := cell_of_block (i := 3) HF.out
    refine bodyPost_ret (v := .agg #[.int .i64 k, .int .i64 n, .float .f64 f, .string s]) ?_ rfl (.inl ⟨rfl, rfl, HR.out, HT.out⟩)
    simp [results, Tryd.results6, go_sem, f0, f1, f2, f3]
end Go.Proofs.YtkiicdleoniioaaDoor

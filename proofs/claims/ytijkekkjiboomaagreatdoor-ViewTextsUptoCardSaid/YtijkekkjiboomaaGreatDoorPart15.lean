/- Views: canJoin, goesOn, piece. -/
import Derived.Test.YtijkekkjiboomaaGreatDoorPart12
import Derived.Test.YtijkekkjiboomaaGreatDoorVwC
import Derived.Test.YtijkekkjiboomaaGreatDoorUtfCutB
import Derived.Deep.RegionHeld3
import Derived.BigQuiet
namespace Go.Proofs.YtijkekkjiboomaaGreatDoor
open Go.RowKit
set_option linter.unusedVariables false
set_option linter.unusedSimpArgs false
set_option maxRecDepth 100000

set_option maxHeartbeats 4000000 in
theorem canj_any {w : World} {a b : Rw} {x y : Rn} (ha : MtR w a x) (hb : MtR w b y) (dx : x.Dbl) (dy : y.Dbl) : Calls Tryz.prog 66 #[a.val, b.val] w fun e w' => e = .returned (.bool (canJ x y)) ∧ Touch (fun _ => False) w w' := by
  have HM : Hid (∀ W, Touch (fun _ => False) w W → Calls Tryz.prog 88 #[.slice a.ms.a a.ms.n a.ms.c, .slice b.ms.a b.ms.n b.ms.c] W fun e w' => e = .returned (.bool (sameL x.ml y.ml)) ∧ Touch (fun _ => False) W w') := fun W t => msame_any (ha.ml.touch t) (hb.ml.touch t) dx.m dy.m
  have HR : Hid (canJ x y = (!a.em && !b.em && sameL x.ml y.ml)) := by rw [Hid, ha.em, hb.em]; rfl
  obtain ⟨E, hE⟩ : ∃ E, Hid (E = (w.alloc (rwO a)).alloc (rwO b)) := ⟨_, Eq.refl _⟩
  have HTE : Hid (Touch (fun _ => False) w E) := by rw [hE.out]; exact ((Touch.refl _ _).alloc _).alloc _
  obtain ⟨q1, q2⟩ := heap_alloc2 w (rwO a) (rwO b)
  rw [← hE.out] at q1 q2
  obtain ⟨-, a1, -, -, -, -, a6⟩ := rwO_cells q1
  obtain ⟨-, b1, -, -, -, -, b6⟩ := rwO_cells q2
  rw [HR.out]
  clear HR q1 q2 ha hb dx dy
  generalize sameL x.ml y.ml = s at *
  obtain ⟨atx, aem, avk, avn, avf, avs, ⟨ama, amn, amc⟩⟩ := a
  obtain ⟨btx, bem, bvk, bvn, bvf, bvs, ⟨bma, bmn, bmc⟩⟩ := b
  simp only at a1 a6 b1 b6 HM ⊢
  go_enter Tryz.func66, Tryz.ntmps66
  go_upto_region 1 with fail
  rw [← hE.out]
  clear hE
  cases aem with
  | true =>
    go_wp2_with fail
    go_ret
    exact ⟨rfl, HTE.out⟩
  | false =>
    cases bem with
    | true =>
      go_wp2_with fail
      go_ret
      exact ⟨rfl, HTE.out⟩
    | false =>
      go_wp2_with fail
      refine (HM.out _ HTE.out).mono ?_
      rintro e W1 ⟨rfl, t1⟩
      have HT1 : Hid (Touch (fun _ => False) w W1) := HTE.out.trans t1
      clear t1 a1 a6 b1 b6 HM
      go_wp2_with fail
      go_ret
      exact ⟨by simp, HT1.out⟩
/-- Does a run go on where the last one of a list ends? -/
def goesV (L : List Rn) (x : Rn) : Bool := match L.getLast? with
  | none => false
  | some a => canJ a x
set_option maxHeartbeats 8000000 in
theorem goesOn_any {w : World} {v : Value} {L : List Rn} {r : Rw} {x : Rn} (hv : SlRn w v L) (hr : MtR w r x) (dL : ∀ a ∈ L, a.Dbl) (dx : x.Dbl) (hl : L.length ≤ 1048576) : Calls Tryz.prog 44 #[v, r.val] w fun e w' => e = .returned (.bool (goesV L x)) ∧ Touch (fun _ => False) w w' := by
  obtain ⟨raw, hs, hm⟩ := hv
  obtain ⟨ao, cap, rfl, a1, a2, a3⟩ := hs.shape
  have hrl := hm.len
  obtain ⟨E, hE⟩ : ∃ E, Hid (E = w.alloc (rwO r)) := ⟨_, Eq.refl _⟩
  have HTE : Hid (Touch (fun _ => False) w E) := by rw [hE.out]; exact (Touch.refl _ _).alloc _
  rcases List.eq_nil_or_concat L with rfl | ⟨init, last, rfl⟩
  · have h0 : raw.length = 0 := hrl
    rw [h0]
    have HG : Hid (goesV [] x = false) := rfl
    rw [HG.out]
    clear HG hs hm hr hrl h0 a1 a2 a3 hl
    go_enter Tryz.func44, Tryz.ntmps44
    go_upto_region 1 with fail
    rw [← hE.out]
    clear hE
    have hd : decide ((0 : Int) < (0 : Int)) = false := by decide
    go_quiet (fail)
    have HT1 : Hid (Touch (fun _ => False) w (E.drewN nq)) := HTE.out.drewN nq
    clear HTE
    go_wp2_with fail
    go_ret
    exact ⟨rfl, HT1.out⟩
  · rw [List.concat_eq_append] at hm hrl hl dL ⊢
    obtain ⟨rinit, rl, rfl, hmi, hml⟩ := hm.split
    obtain ⟨rlast, rfl, hlast⟩ := hml.one
    have hin : rinit.length = init.length := hmi.len
    have HG : Hid (goesV (init ++ [last]) x = canJ last x) := by show _ = _; unfold goesV; simp
    rw [HG.out]
    have HC : Hid (∀ W, Touch (fun _ => False) w W → Calls Tryz.prog 66 #[rlast.val, r.val] W fun e w' => e = .returned (.bool (canJ last x)) ∧ Touch (fun _ => False) W w') := fun W t => canj_any (hlast.touch t) (hr.touch t) (dL _ (by simp)) dx
    obtain ⟨b, o, rfl, -, hca⟩ := hs.at (by simp)
    have HX := fun W (t : Touch (fun _ => False) w W) => hca W t rinit.length (by simp)
    have hidx : (rinit ++ [rlast])[rinit.length]'(by simp) = rlast := by simp
    simp only [hidx] at HX
    have HB : Hid (∀ W, Touch (fun _ => False) E W → (W.cell? ⟨w.heap.size, 0, none⟩ = some (.string r.tx) ∧ W.cell? ⟨w.heap.size, 1, none⟩ = some (.bool r.em) ∧ W.cell? ⟨w.heap.size, 2, none⟩ = some (.int .i64 r.vk) ∧ W.cell? ⟨w.heap.size, 3, none⟩ = some (.int .i64 r.vn) ∧ W.cell? ⟨w.heap.size, 4, none⟩ = some (.float .f64 r.vf) ∧ W.cell? ⟨w.heap.size, 5, none⟩ = some (.string r.vs) ∧ W.cell? ⟨w.heap.size, 6, none⟩ = some (.slice r.ms.a r.ms.n r.ms.c)) ∧ (W.cell? ⟨b, o + rinit.length * 7, none⟩ = some (.string rlast.tx) ∧ W.cell? ⟨b, o + rinit.length * 7 + 1, none⟩ = some (.bool rlast.em) ∧ W.cell? ⟨b, o + rinit.length * 7 + 2, none⟩ = some (.int .i64 rlast.vk) ∧ W.cell? ⟨b, o + rinit.length * 7 + 3, none⟩ = some (.int .i64 rlast.vn) ∧ W.cell? ⟨b, o + rinit.length * 7 + 4, none⟩ = some (.float .f64 rlast.vf) ∧ W.cell? ⟨b, o + rinit.length * 7 + 5, none⟩ = some (.string rlast.vs) ∧ W.cell? ⟨b, o + rinit.length * 7 + 6, none⟩ = some (.slice rlast.ms.a rlast.ms.n rlast.ms.c))) := fun W t => by
      refine ⟨?_, HX W (HTE.out.trans t)⟩
      exact rwO_cells (hkY t (show E.heap[w.heap.size]? = some (rwO r) by rw [hE.out]; exact heap_alloc_new _ _))
    have hnl : (rinit ++ [rlast]).length = rinit.length + 1 := by simp
    rw [hnl] at a2 ⊢
    have i5 : IntKind.i64.wrap ((rinit.length : Int) + 1 - 1) = (rinit.length : Int) := by rw [Int.add_sub_cancel, IntKind.wrap_i64]; simp at hl; omega
    have i9 : IntKind.i64.wrap (rinit.length : Int) = (rinit.length : Int) := by rw [IntKind.wrap_i64]; simp at hl; omega
    have i6 : (0 : Int) ≤ (rinit.length : Int) := by omega
    have i7 : (rinit.length : Int) < (rinit.length : Int) + 1 := by omega
    have i8 : decide ((0 : Int) < (rinit.length : Int) + 1) = true := by rw [decide_eq_true_eq]; omega
    clear hnl hin hca HX hidx hlast hmi hml hs hm hr HG hrl dL a1 a2 a3 hl
    generalize canJ last x = cj at *
    generalize rinit.length = n at *
    obtain ⟨rtx, rem, rvk, rvn, rvf, rvs, ⟨rma, rmn, rmc⟩⟩ := r
    obtain ⟨ltx, lem, lvk, lvn, lvf, lvs, ⟨lma, lmn, lmc⟩⟩ := rlast
    simp only at HB HC ⊢
    go_enter Tryz.func44, Tryz.ntmps44
    go_upto_region 1 with fail
    rw [← hE.out]
    clear hE
    have S0 := HB.out _ (Touch.refl _ E).drew
    go_region_held3 (fun W => (W.cell? ⟨w.heap.size, 0, none⟩ = some (.string rtx) ∧ W.cell? ⟨w.heap.size, 1, none⟩ = some (.bool rem) ∧ W.cell? ⟨w.heap.size, 2, none⟩ = some (.int .i64 rvk) ∧ W.cell? ⟨w.heap.size, 3, none⟩ = some (.int .i64 rvn) ∧ W.cell? ⟨w.heap.size, 4, none⟩ = some (.float .f64 rvf) ∧ W.cell? ⟨w.heap.size, 5, none⟩ = some (.string rvs) ∧ W.cell? ⟨w.heap.size, 6, none⟩ = some (.slice rma rmn rmc)) ∧ (W.cell? ⟨b, o + n * 7, none⟩ = some (.string ltx) ∧ W.cell? ⟨b, o + n * 7 + 1, none⟩ = some (.bool lem) ∧ W.cell? ⟨b, o + n * 7 + 2, none⟩ = some (.int .i64 lvk) ∧ W.cell? ⟨b, o + n * 7 + 3, none⟩ = some (.int .i64 lvn) ∧ W.cell? ⟨b, o + n * 7 + 4, none⟩ = some (.float .f64 lvf) ∧ W.cell? ⟨b, o + n * 7 + 5, none⟩ = some (.string lvs) ∧ W.cell? ⟨b, o + n * 7 + 6, none⟩ = some (.slice lma lmn lmc))) (first | assumption)
      (first
        | (go_at_call 66; (with_reducible refine (HC.out _ HTE.out.drew).mono ?_); rintro e w1 ⟨rfl, t1⟩; have S1 := HB.out w1 ((Touch.refl _ E).drew.trans t1); have HT1 : Hid (Touch (fun _ => False) w w1) := HTE.out.drew.trans t1; clear t1))
    all_goals (try go_wp2_with fail)
    all_goals go_ret
    all_goals exact ⟨rfl, HT1.out⟩
end Go.Proofs.YtijkekkjiboomaaGreatDoor

/- Views: a run stored cell by cell; piece. -/
namespace Go.Proofs.YtijkekkjiboomaaGreatDoor
open Go.RowKit
set_option linter.unusedVariables false
set_option linter.unusedSimpArgs false
set_option maxRecDepth 100000

abbrev rz : Rw := ⟨⟨#[]⟩, false, 0, 0, 0, ⟨#[]⟩, ⟨none, 0, 0⟩⟩
abbrev rwW (W : World) (m : Nat) (r : Rw) : World := (((((((W.setCell ⟨m, 0, none⟩ (.string r.tx)).setCell ⟨m, 1, none⟩ (.bool r.em)).setCell ⟨m, 2, none⟩ (.int .i64 r.vk)).setCell ⟨m, 3, none⟩ (.int .i64 r.vn)).setCell ⟨m, 4, none⟩ (.float .f64 r.vf)).setCell ⟨m, 5, none⟩ (.string r.vs)).setCell ⟨m, 6, none⟩ (.slice r.ms.a r.ms.n r.ms.c))
theorem rwO_steps {W : World} {m : Nat} {z : Rw} (h : W.heap[m]? = some (rwO z)) (r : Rw) : W.cell? ⟨m, 0, none⟩ = some (.string z.tx) ∧ W.frozen? ⟨m, 0, none⟩ = false ∧ (W.setCell ⟨m, 0, none⟩ (.string r.tx)).cell? ⟨m, 1, none⟩ = some (.bool z.em) ∧ (W.setCell ⟨m, 0, none⟩ (.string r.tx)).frozen? ⟨m, 1, none⟩ = false ∧ ((W.setCell ⟨m, 0, none⟩ (.string r.tx)).setCell ⟨m, 1, none⟩ (.bool r.em)).cell? ⟨m, 2, none⟩ = some (.int .i64 z.vk) ∧ ((W.setCell ⟨m, 0, none⟩ (.string r.tx)).setCell ⟨m, 1, none⟩ (.bool r.em)).frozen? ⟨m, 2, none⟩ = false ∧ (((W.setCell ⟨m, 0, none⟩ (.string r.tx)).setCell ⟨m, 1, none⟩ (.bool r.em)).setCell ⟨m, 2, none⟩ (.int .i64 r.vk)).cell? ⟨m, 3, none⟩ = some (.int .i64 z.vn) ∧ (((W.setCell ⟨m, 0, none⟩ (.string r.tx)).setCell ⟨m, 1, none⟩ (.bool r.em)).setCell ⟨m, 2, none⟩ (.int .i64 r.vk)).frozen? ⟨m, 3, none⟩ = false ∧ ((((W.setCell ⟨m, 0, none⟩ (.string r.tx)).setCell ⟨m, 1, none⟩ (.bool r.em)).setCell ⟨m, 2, none⟩ (.int .i64 r.vk)).setCell ⟨m, 3, none⟩ (.int .i64 r.vn)).cell? ⟨m, 4, none⟩ = some (.float .f64 z.vf) ∧ ((((W.setCell ⟨m, 0, none⟩ (.string r.tx)).setCell ⟨m, 1, none⟩ (.bool r.em)).setCell ⟨m, 2, none⟩ (.int .i64 r.vk)).setCell ⟨m, 3, none⟩ (.int .i64 r.vn)).frozen? ⟨m, 4, none⟩ = false ∧ (((((W.setCell ⟨m, 0, none⟩ (.string r.tx)).setCell ⟨m, 1, none⟩ (.bool r.em)).setCell ⟨m, 2, none⟩ (.int .i64 r.vk)).setCell ⟨m, 3, none⟩ (.int .i64 r.vn)).setCell ⟨m, 4, none⟩ (.float .f64 r.vf)).cell? ⟨m, 5, none⟩ = some (.string z.vs) ∧ (((((W.setCell ⟨m, 0, none⟩ (.string r.tx)).setCell ⟨m, 1, none⟩ (.bool r.em)).setCell ⟨m, 2, none⟩ (.int .i64 r.vk)).setCell ⟨m, 3, none⟩ (.int .i64 r.vn)).setCell ⟨m, 4, none⟩ (.float .f64 r.vf)).frozen? ⟨m, 5, none⟩ = false ∧ ((((((W.setCell ⟨m, 0, none⟩ (.string r.tx)).setCell ⟨m, 1, none⟩ (.bool r.em)).setCell ⟨m, 2, none⟩ (.int .i64 r.vk)).setCell ⟨m, 3, none⟩ (.int .i64 r.vn)).setCell ⟨m, 4, none⟩ (.float .f64 r.vf)).setCell ⟨m, 5, none⟩ (.string r.vs)).cell? ⟨m, 6, none⟩ = some (.slice z.ms.a z.ms.n z.ms.c) ∧ ((((((W.setCell ⟨m, 0, none⟩ (.string r.tx)).setCell ⟨m, 1, none⟩ (.bool r.em)).setCell ⟨m, 2, none⟩ (.int .i64 r.vk)).setCell ⟨m, 3, none⟩ (.int .i64 r.vn)).setCell ⟨m, 4, none⟩ (.float .f64 r.vf)).setCell ⟨m, 5, none⟩ (.string r.vs)).frozen? ⟨m, 6, none⟩ = false := by
  have h1 := heap_setCell_same _ m 0 (.string r.tx) h
  have h2 := heap_setCell_same _ m 1 (.bool r.em) h1
  have h3 := heap_setCell_same _ m 2 (.int .i64 r.vk) h2
  have h4 := heap_setCell_same _ m 3 (.int .i64 r.vn) h3
  have h5 := heap_setCell_same _ m 4 (.float .f64 r.vf) h4
  have h6 := heap_setCell_same _ m 5 (.string r.vs) h5
  exact ⟨by rw [cell_of_block h]; rfl, free_of_block h, by rw [cell_of_block h1]; rfl, free_of_block h1, by rw [cell_of_block h2]; rfl, free_of_block h2, by rw [cell_of_block h3]; rfl, free_of_block h3, by rw [cell_of_block h4]; rfl, free_of_block h4, by rw [cell_of_block h5]; rfl, free_of_block h5, by rw [cell_of_block h6]; rfl, free_of_block h6⟩
theorem rwO_set {W : World} {m : Nat} {z : Rw} (h : W.heap[m]? = some (rwO z)) (r : Rw) : (rwW W m r).heap[m]? = some (rwO r) := by
  have h1 := heap_setCell_same _ m 0 (.string r.tx) h
  have h2 := heap_setCell_same _ m 1 (.bool r.em) h1
  have h3 := heap_setCell_same _ m 2 (.int .i64 r.vk) h2
  have h4 := heap_setCell_same _ m 3 (.int .i64 r.vn) h3
  have h5 := heap_setCell_same _ m 4 (.float .f64 r.vf) h4
  have h6 := heap_setCell_same _ m 5 (.string r.vs) h5
  have h7 := heap_setCell_same _ m 6 (.slice r.ms.a r.ms.n r.ms.c) h6
  simp only [List.setIfInBounds_toArray, List.set_cons_zero, List.set_cons_succ] at h7
  exact h7
theorem rwW_touch {w W : World} {m : Nat} (t : Touch (fun _ => False) w W) (hm : w.heap.size ≤ m) (r : Rw) : Touch (fun _ => False) w (rwW W m r) := by
  have k : ∀ {V : World} (i : Nat) (v : Value), Touch (fun _ => False) w V → Touch (fun _ => False) w (V.setCell ⟨m, i, none⟩ v) := fun i v t => t.setCell _ _ (fun h => absurd h (Nat.not_lt.2 hm))
  have t1 := k 0 (.string r.tx) t
  have t2 := k 1 (.bool r.em) t1
  have t3 := k 2 (.int .i64 r.vk) t2
  have t4 := k 3 (.int .i64 r.vn) t3
  have t5 := k 4 (.float .f64 r.vf) t4
  have t6 := k 5 (.string r.vs) t5
  have t7 := k 6 (.slice r.ms.a r.ms.n r.ms.c) t6
  exact t7
theorem rwW_other {W : World} {m k : Nat} (r : Rw) (h : m ≠ k) : (rwW W m r).heap[k]? = W.heap[k]? := by
  have e : ∀ (V : World) (i : Nat) (v : Value), (V.setCell ⟨m, i, none⟩ v).heap[k]? = V.heap[k]? := fun V i v => heap_setCell_other V ⟨m, i, none⟩ v k h
  show (World.setCell _ ⟨m, 6, none⟩ _).heap[k]? = _
  rw [e, e, e, e, e, e, e]
/-- A run, of which these units are left. -/
def pieceW (r : Rw) (fr til : Int) : Rw := ⟨if r.em = true then r.tx else cutOf r.tx.data.toList fr til, r.em, r.vk, r.vn, r.vf, r.vs, r.ms⟩
theorem MtR.piece {w : World} {r : Rw} {x : Rn} (h : MtR w r x) (fr til : Int) : MtR w (pieceW r fr til) (pieceP x fr til) := by
  have he := h.em
  have ht := h.tx
  unfold pieceW pieceP
  by_cases hx : x.em = true
  · rw [if_pos hx, if_pos (he.trans hx)]
    exact ⟨ht, he, h.v, h.ml⟩
  · rw [if_neg hx, if_neg (by rw [he]; exact hx), ht]
    exact ⟨rfl, he, h.v, h.ml⟩
set_option maxHeartbeats 8000000 in
theorem piece_any (r : Rw) (hs : r.tx.size ≤ 1048576) (fr til : Int) (w : World) (hT : TabsU w) : Calls Tryz.prog 49 #[r.val, .int .i64 fr, .int .i64 til] w fun e w' => e = .returned (pieceW r fr til).val ∧ Touch (fun _ => False) w w' := by
  have HC : Hid (∀ W, Touch (fun _ => False) w W → Calls Tryz.prog 69 #[.string r.tx, .int .i64 fr, .int .i64 til] W fun e w' => e = .returned (.string (cutOf r.tx.data.toList fr til)) ∧ Touch (fun _ => False) W w') := fun W t => utf_cut r.tx (by omega) fr til W (hT.keep t)
  have HP : Hid (pieceW r fr til = ⟨if r.em = true then r.tx else cutOf r.tx.data.toList fr til, r.em, r.vk, r.vn, r.vf, r.vs, r.ms⟩) := Eq.refl _
  rw [HP.out]
  obtain ⟨E, hE⟩ : ∃ E, Hid (E = (w.alloc (rwO r)).alloc (rwO rz)) := ⟨_, Eq.refl _⟩
  obtain ⟨m, hm⟩ : ∃ m, Hid (m = w.heap.size) := ⟨_, Eq.refl _⟩
  obtain ⟨n, hn⟩ : ∃ n, Hid (n = w.heap.size + 1) := ⟨_, Eq.refl _⟩
  have HTE : Hid (Touch (fun _ => False) w E) := by rw [hE.out]; exact ((Touch.refl _ _).alloc _).alloc _
  have HQ : Hid (E.heap[m]? = some (rwO r) ∧ E.heap[n]? = some (rwO rz)) := by rw [hE.out, hm.out, hn.out]; exact heap_alloc2 _ _ _
  have HN : Hid (w.heap.size ≤ m ∧ w.heap.size ≤ n ∧ m ≠ n) := by rw [hm.out, hn.out]; exact ⟨Nat.le_refl _, Nat.le_succ _, by omega⟩
  clear hT hs HP
  generalize cutOf r.tx.data.toList fr til = ct at *
  obtain ⟨tx, em, vk, vn, vf, vs, ⟨ma, mn, mc⟩⟩ := r
  simp only at HC HQ ⊢
  obtain ⟨c0, c1, c2, c3, c4, c5, c6⟩ := rwO_cells HQ.out.1
  have h2 := run_store_f64 Tryz.prog
  go_enter Tryz.func49, Tryz.ntmps49
  go_upto_region 1 with fail
  rw [← hE.out, ← hn.out, ← hm.out]
  clear hE hm hn
  cases em with
  | true =>
    obtain ⟨s0, s1, s2, s3, s4, s5, s6, s7, s8, s9, s10, s11, s12, s13⟩ := rwO_steps HQ.out.2 ⟨tx, true, vk, vn, vf, vs, ⟨ma, mn, mc⟩⟩
    have HR : Hid (Touch (fun _ => False) w (rwW E n ⟨tx, true, vk, vn, vf, vs, ⟨ma, mn, mc⟩⟩)) := rwW_touch HTE.out HN.out.2.1 _
    obtain ⟨u0, u1, u2, u3, u4, u5, u6⟩ := rwO_cells (rwO_set HQ.out.2 ⟨tx, true, vk, vn, vf, vs, ⟨ma, mn, mc⟩⟩)
    go_wp2_with fail
    refine bodyPost_ret (v := .agg #[.string tx, .bool true, .int .i64 vk, .int .i64 vn, .float .f64 vf, .string vs, .slice ma mn mc]) (by simp [results, Tryz.results49, go_sem, u0, u1, u2, u3, u4, u5, u6]) rfl ?_
    exact ⟨rfl, HR.out⟩
  | false =>
    go_wp2_with fail
    refine (HC.out _ HTE.out).mono ?_
    rintro e W1 ⟨rfl, t1⟩
    have k1 := hkY t1 HQ.out.1
    have k2 := hkY t1 HQ.out.2
    have f0 : W1.frozen? ⟨m, 0, none⟩ = false := free_of_block k1
    have e0 : W1.cell? ⟨m, 0, none⟩ = some (.string tx) := (rwO_cells k1).1
    have k3 := heap_setCell_same W1 m 0 (.string ct) k1
    have k4 : (W1.setCell ⟨m, 0, none⟩ (.string ct)).heap[n]? = some (rwO rz) := by rw [heap_setCell_other _ _ _ _ (show (⟨m, 0, none⟩ : Addr).block ≠ n from HN.out.2.2)]; exact k2
    have k5 : (W1.setCell ⟨m, 0, none⟩ (.string ct)).heap[m]? = some (rwO ⟨ct, false, vk, vn, vf, vs, ⟨ma, mn, mc⟩⟩) := k3
    have t2 : Touch (fun _ => False) w (W1.setCell ⟨m, 0, none⟩ (.string ct)) := (HTE.out.trans t1).setCell _ _ (fun h => absurd h (Nat.not_lt.2 HN.out.1))
    obtain ⟨V, hV⟩ : ∃ V, Hid (V = W1.setCell ⟨m, 0, none⟩ (.string ct)) := ⟨_, Eq.refl _⟩
    rw [← hV.out] at k4 k5 t2
    have HV : Hid (V.heap[m]? = some (rwO ⟨ct, false, vk, vn, vf, vs, ⟨ma, mn, mc⟩⟩) ∧ V.heap[n]? = some (rwO rz) ∧ Touch (fun _ => False) w V) := ⟨k5, k4, t2⟩
    clear c0 c1 c2 c3 c4 c5 c6 k1 k2 k3 k4 k5 t1 t2 HC
    go_upto_region 3 with fail
    rw [← hV.out]
    clear e0 f0 hV
    obtain ⟨c0, c1, c2, c3, c4, c5, c6⟩ := rwO_cells HV.out.1
    obtain ⟨s0, s1, s2, s3, s4, s5, s6, s7, s8, s9, s10, s11, s12, s13⟩ := rwO_steps HV.out.2.1 ⟨ct, false, vk, vn, vf, vs, ⟨ma, mn, mc⟩⟩
    have HR : Hid (Touch (fun _ => False) w (rwW V n ⟨ct, false, vk, vn, vf, vs, ⟨ma, mn, mc⟩⟩)) := rwW_touch HV.out.2.2 HN.out.2.1 _
    obtain ⟨u0, u1, u2, u3, u4, u5, u6⟩ := rwO_cells (rwO_set HV.out.2.1 ⟨ct, false, vk, vn, vf, vs, ⟨ma, mn, mc⟩⟩)
    go_wp2_with fail
    refine bodyPost_ret (v := .agg #[.string ct, .bool false, .int .i64 vk, .int .i64 vn, .float .f64 vf, .string vs, .slice ma mn mc]) (by simp [results, Tryz.results49, go_sem, u0, u1, u2, u3, u4, u5, u6]) rfl ?_
    exact ⟨by simp, HR.out⟩
end Go.Proofs.YtijkekkjiboomaaGreatDoor
